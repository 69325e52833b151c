/-
  accordlaw: a script of steps that comes in, out of the row's reading of it; what the bound gives of it.
-/
import Derived.Test.YtekbjlhbjcikdaaGreatRows
import Derived.Test.YtekbjlhbjcikdaaGreatML15
import Derived.WalkKit
import Derived.ProofKit
import Derived.OpenShut
import Derived.ShutString
import Derived.ChangeOld
import Derived.Below
import Derived.JoinedCond
import Derived.Lib.SmallJoins
import Derived.Deep.Slices
import Derived.Deep.Strs
namespace Go.Proofs.YtekbjlhbjcikdaaGreat
open Go.ChangeShapes Go.WideShapes Go.ChangeAt Go.RowKit Go.Deep Go.Joins Acc

theorem lawOwn : ownKnob Tryz.prog.godebug = none := by kernel_rfl
theorem lawLaidOut : laidOutB Tryz.prog = true := by kernel_rfl
theorem Tryz.cellsOp : Tryz.prog.cellsOf 72 = 5 := by kernel_rfl
theorem Tryz.cellsWrite : Tryz.prog.cellsOf 74 = 3 := by kernel_rfl
theorem Tryz.cellsWrites : Tryz.prog.cellsOf 52 = 1 := by kernel_rfl
theorem Tryz.cellsInt1 : Tryz.prog.cellsOf 3 = 1 := by kernel_rfl

/-! What the bound gives. -/
theorem bulk_one {H : Type} (d : DataW H) : 1 ≤ Rows.uptoBulk d := by
  cases d with
  | lit l => cases l <;> simp [Rows.uptoBulk]
  | nil => simp [Rows.uptoBulk]
  | ptr d => simp [Rows.uptoBulk]
  | slice elems spare => simp [Rows.uptoBulk]
  | agg parts => simp [Rows.uptoBulk]
  | iface t d => simp [Rows.uptoBulk]
  | map entries => simp [Rows.uptoBulk]
  | held h => simp [Rows.uptoBulk]
theorem bulk_part {H : Type} {d : DataW H} {l : List (DataW H)} (h : d ∈ l) : Rows.uptoBulk d ≤ Rows.uptoBulkAll l := by
  induction l with
  | nil => cases h
  | cons x r ih =>
    simp only [Rows.uptoBulkAll]
    cases List.mem_cons.1 h with
    | inl e => subst e; omega
    | inr e => have := ih e; omega
theorem bulk_length {H : Type} (l : List (DataW H)) : l.length ≤ Rows.uptoBulkAll l := by
  induction l with
  | nil => simp [Rows.uptoBulkAll]
  | cons x r ih => have := bulk_one x; simp only [Rows.uptoBulkAll, List.length_cons]; omega
theorem bulk_elems {H : Type} (elems spare : List (DataW H)) : Rows.uptoBulkAll elems + 1 ≤ Rows.uptoBulk (.slice elems spare) := by
  simp only [Rows.uptoBulk]
  omega

section
variable {H : Type} {enc : TypeId × Value → H} {P : Program} {w : World} {base : Nat} {spare : Nat → Bool} {held : Bool}
theorem trod_struct5 {t : TypeId} {f0 f1 f2 f3 f4 : Field} {fuel : Nat} {cs : List Value} {x : DataW H × List MemPlace} (ht : P.underlying t = some (.struct #[f0, f1, f2, f3, f4])) (h : DataW.trod enc P w base spare held fuel t cs = some x) :
    ∃ y0 y1 y2 y3 y4 n, x.1 = .agg [y0.1, y1.1, y2.1, y3.1, y4.1] ∧ cs.length = P.cellsOf t ∧ DataW.trod enc P w base spare held n f0.type ((cs.drop f0.offset).take (P.cellsOf f0.type)) = some y0 ∧
      DataW.trod enc P w base spare held n f1.type ((cs.drop f1.offset).take (P.cellsOf f1.type)) = some y1 ∧ DataW.trod enc P w base spare held n f2.type ((cs.drop f2.offset).take (P.cellsOf f2.type)) = some y2 ∧
      DataW.trod enc P w base spare held n f3.type ((cs.drop f3.offset).take (P.cellsOf f3.type)) = some y3 ∧ DataW.trod enc P w base spare held n f4.type ((cs.drop f4.offset).take (P.cellsOf f4.type)) = some y4 := by
  obtain ⟨xs, n, _, rfl, hl, hlen, hf⟩ := DataW.trod_struct ht h
  match xs, hlen with
  | [y0, y1, y2, y3, y4], _ => exact ⟨y0, y1, y2, y3, y4, n, by simp, hl, by simpa using hf 0 f0 rfl, by simpa using hf 1 f1 rfl, by simpa using hf 2 f2 rfl, by simpa using hf 3 f3 rfl, by simpa using hf 4 f4 rfl⟩
end

theorem list_5 {α : Type} {l : List α} (h : l.length = 5) : ∃ a b c d e, l = [a, b, c, d, e] := by
  match l, h with
  | [a, b, c, d, e], _ => exact ⟨a, b, c, d, e, rfl⟩
theorem list_3 {α : Type} {l : List α} (h : l.length = 3) : ∃ a b c, l = [a, b, c] := by
  match l, h with
  | [a, b, c], _ => exact ⟨a, b, c, rfl⟩

/-! The writes of one step. -/
set_option maxRecDepth 10000 in
theorem wrsAt_of {H : Type} {enc : TypeId × Value → H} {W : World} {sp : Nat → Bool} {fuel : Nat} {v : Value} {y : DataW H × List MemPlace} (hf : DataW.trod enc Tryz.prog W 0 sp true fuel 52 [v] = some y) (hb : Rows.uptoBulk y.1 ≤ 1048576) :
    ∃ wa wn wc, v = .slice wa wn wc ∧ WrsAt W wa wn wc := by
  rcases open_slice Tryz.underlying52 hf with ⟨hcs, _⟩ | ⟨x, l, c, m, n, D, Pl, hcs, _, hl, hm, hmm, hx, hcell⟩
  · obtain rfl : v = .slice none 0 0 := by simpa using hcs
    exact ⟨none, 0, 0, rfl, [], rfl, by omega, by omega, .inl rfl, fun x hx _ => (by cases hx), fun _ => ⟨rfl, rfl⟩⟩
  · obtain rfl : v = .slice (some x) l c := by simpa using hcs
    have hlb : l ≤ 1048576 := by
      have hb : Rows.uptoBulk (DataW.slice ((List.range l).map D) ((List.range (m - l)).map fun j => D (l + j))) ≤ 1048576 := by rw [hx] at hb; exact hb
      have h1 := bulk_elems ((List.range l).map D) ((List.range (m - l)).map fun j => D (l + j))
      have h2 := bulk_length ((List.range l).map D)
      simp only [List.length_map, List.length_range] at h2
      omega
    have hlm : l ≤ m := by rw [hmm]; split <;> omega
    obtain ⟨g, o, spot⟩ := x
    rw [Tryz.cellsWrite] at hcell
    have hone : ∀ i, i < l → ∃ z : Wr, W.cell? ((⟨g, o, spot⟩ : Addr).add (i * 3)) = some (.int .i64 z.part) ∧ W.cell? (((⟨g, o, spot⟩ : Addr).add (i * 3)).add 1) = some (.int .i64 z.key) ∧ W.cell? (((⟨g, o, spot⟩ : Addr).add (i * 3)).add 2) = some (.int .i64 z.val) := by
      intro i hi
      obtain ⟨cs', h1, h2⟩ := hcell i (by omega)
      obtain ⟨_, hlen, hat⟩ := World.cells?_some h1
      obtain ⟨y0, y1, y2, n', _, _, t0, t1, t2⟩ := trod_struct3 Tryz.underlying74 h2
      obtain ⟨c0, c1, c2, rfl⟩ := list_3 hlen
      simp [Tryz.cellsInt1] at t0 t1 t2
      obtain ⟨K, e0, _, w0⟩ := DataW.trod_int Tryz.underlying3 t0
      obtain ⟨A, e1, _, w1⟩ := DataW.trod_int Tryz.underlying3 t1
      obtain ⟨B, e2, _, w2⟩ := DataW.trod_int Tryz.underlying3 t2
      simp at e0 e1 e2
      subst e0 e1 e2
      have a0 := hat 0 (by omega)
      have a1 := hat 1 (by omega)
      have a2 := hat 2 (by omega)
      simp at a0 a1 a2
      exact ⟨⟨K, A, B⟩, by simpa [Addr.add] using a0, a1, a2⟩
    haveI : Inhabited Wr := ⟨⟨0, 0, 0⟩⟩
    obtain ⟨Z, hZ⟩ := choose_lt (α := Wr) hone
    refine ⟨some ⟨g, o, spot⟩, l, c, rfl, (List.range l).map Z, by simp, by omega, hl, ?_, ?_, fun hh => by cases hh⟩
    · by_cases h0 : l = 0
      · subst h0; exact .inl rfl
      · obtain ⟨c0, _⟩ := hZ 0 (by omega)
        have hspot : spot = none := by simpa [Addr.add] using World.cell?_spot c0
        subst hspot
        refine .inr ⟨g, o, rfl, ?_, ?_⟩
        · have c0' : W.cell? ⟨g, o, none⟩ = some (.int .i64 (Z 0).part) := by simpa [Addr.add] using c0
          exact World.block_lt_of_cell? W _ c0'
        · intro i x hx
          have hi : i < l := by have := (List.getElem?_eq_some_iff.1 hx).1; simpa using this
          have hxz : x = Z i := by simp [hi] at hx; exact hx.symm
          subst hxz
          obtain ⟨q0, q1, q2⟩ := hZ i hi
          simp only [addr_add_at] at q0 q1 q2
          exact ⟨q0, q1, q2⟩
    · intro x hx hne
      simp only [Option.some.injEq] at hx
      subst hx
      have h0 : l ≠ 0 := by intro e; subst e; exact hne rfl
      obtain ⟨c0, _⟩ := hZ 0 (by omega)
      have c0' : W.cell? ⟨g, o, spot⟩ = some (.int .i64 (Z 0).part) := by simpa [Addr.add] using c0
      exact World.block_lt_of_cell? W _ c0'

set_option maxRecDepth 10000 in
theorem scriptAt_of {H : Type} {enc : TypeId × Value → H} {W : World} {sp : Nat → Bool} {a : Option Addr} {len cap : Nat} {d : DataW H} {p : List MemPlace} (h : DataW.Trod enc Tryz.prog W 0 sp true 22 (.slice a len cap) d p) (hb : Rows.uptoBulk d ≤ 1048576) :
    len ≤ 1100000 ∧ len ≤ cap ∧ ScriptAt W a len := by
  obtain ⟨fuel, hf⟩ := h
  rcases open_slice Tryz.underlying22 hf with ⟨hcs, _⟩ | ⟨x, l, c, m, n, D, Pl, hcs, _, hl, hm, hmm, hx, hcell⟩
  · simp [Value.cells] at hcs
    obtain ⟨rfl, rfl, rfl⟩ := hcs
    exact ⟨by omega, Nat.le_refl _, .inl rfl⟩
  · simp [Value.cells] at hcs
    obtain ⟨rfl, rfl, rfl⟩ := hcs
    simp only [Prod.mk.injEq] at hx
    obtain ⟨rfl, _⟩ := hx
    have hball := bulk_elems ((List.range len).map D) ((List.range (m - len)).map fun j => D (len + j))
    have hlb : len ≤ 1048576 := by
      have h2 := bulk_length ((List.range len).map D)
      simp only [List.length_map, List.length_range] at h2
      omega
    refine ⟨by omega, hl, ?_⟩
    by_cases h0 : len = 0
    · exact .inl h0
    · have hlm : len ≤ m := by rw [hmm]; split <;> omega
      obtain ⟨g, o, spot⟩ := x
      rw [Tryz.cellsOp] at hcell
      have hone : ∀ i, i < len → ∃ K V A B wa wn wc, W.cell? ((⟨g, o, spot⟩ : Addr).add (i * 5)) = some (.int .i64 K) ∧ W.cell? (((⟨g, o, spot⟩ : Addr).add (i * 5)).add 1) = some (.int .i64 V) ∧ W.cell? (((⟨g, o, spot⟩ : Addr).add (i * 5)).add 2) = some (.int .i64 A) ∧ W.cell? (((⟨g, o, spot⟩ : Addr).add (i * 5)).add 3) = some (.int .i64 B) ∧ W.cell? (((⟨g, o, spot⟩ : Addr).add (i * 5)).add 4) = some (.slice wa wn wc) ∧ inR V ∧ inR B ∧ WrsAt W wa wn wc := by
        intro i hi
        obtain ⟨cs', h1, h2⟩ := hcell i (by omega)
        obtain ⟨_, hlen, hat⟩ := World.cells?_some h1
        obtain ⟨y0, y1, y2, y3, y4, n', hy, _, t0, t1, t2, t3, t4⟩ := trod_struct5 Tryz.underlying72 h2
        obtain ⟨c0, c1, c2, c3, c4, rfl⟩ := list_5 hlen
        simp [Tryz.cellsInt1, Tryz.cellsWrites] at t0 t1 t2 t3 t4
        obtain ⟨K, e0, _, w0⟩ := DataW.trod_int Tryz.underlying3 t0
        obtain ⟨V, e1, _, w1⟩ := DataW.trod_int Tryz.underlying3 t1
        obtain ⟨A, e2, _, w2⟩ := DataW.trod_int Tryz.underlying3 t2
        obtain ⟨B, e3, _, w3⟩ := DataW.trod_int Tryz.underlying3 t3
        have hbi : Rows.uptoBulk (D i) ≤ 1048576 := by
          have := bulk_part (d := D i) (l := (List.range len).map D) (List.mem_map.2 ⟨i, List.mem_range.2 hi, rfl⟩)
          omega
        have hb4 : Rows.uptoBulk y4.1 ≤ 1048576 := by
          simp only at hy
          rw [hy] at hbi
          simp only [Rows.uptoBulk, Rows.uptoBulkAll] at hbi
          omega
        obtain ⟨wa, wn, wc, e4, hwr⟩ := wrsAt_of t4 hb4
        simp at e0 e1 e2 e3
        subst e0 e1 e2 e3 e4
        have a0 := hat 0 (by omega)
        have a1 := hat 1 (by omega)
        have a2 := hat 2 (by omega)
        have a3 := hat 3 (by omega)
        have a4 := hat 4 (by omega)
        simp at a0 a1 a2 a3 a4
        exact ⟨K, V, A, B, wa, wn, wc, by simpa [Addr.add] using a0, a1, a2, a3, a4, bounds_i64 w1, bounds_i64 w3, hwr⟩
      obtain ⟨K, _, _, _, _, _, _, c0, _⟩ := hone 0 (by omega)
      have hspot : spot = none := by simpa [Addr.add] using World.cell?_spot c0
      subst hspot
      refine .inr ⟨g, o, rfl, ?_, ?_⟩
      · have c0' : W.cell? ⟨g, o, none⟩ = some (.int .i64 K) := by simpa [Addr.add] using c0
        exact World.block_lt_of_cell? W _ c0'
      · intro i hi
        obtain ⟨K, V, A, B, wa, wn, wc, c0, c1, c2, c3, c4, r⟩ := hone i hi
        simp only [addr_add_at] at c0 c1 c2 c3 c4
        exact ⟨K, V, A, B, wa, wn, wc, c0, c1, c2, c3, c4, r⟩

end Go.Proofs.YtekbjlhbjcikdaaGreat
