/-
  The script of steps that comes in, out of the row's reading of it.
-/
import Derived.Test.YtekbjlhbjcikdaaGreatRows
import Derived.Test.YtekbjlhbjcikdaaGreatK10
import Derived.WalkKit
import Derived.ProofKit
import Derived.OpenShut
import Derived.ShutString
import Derived.ChangeOld
import Derived.Below
import Derived.Lib.SmallJoins
import Derived.Deep.Slices
namespace Go.Proofs.YtekbjlhbjcikdaaGreat
open Go.ChangeShapes Go.WideShapes Go.ChangeAt Go.RowKit Go.Deep Go.Joins

theorem keepOwn : ownKnob Tryz.prog.godebug = none := by kernel_rfl
theorem keepLaidOut : laidOutB Tryz.prog = true := by kernel_rfl
theorem Tryz.cellsStep : Tryz.prog.cellsOf 31 = 4 := by kernel_rfl
theorem Tryz.cellsInt : Tryz.prog.cellsOf 3 = 1 := by kernel_rfl

theorem list4 {α : Type} {l : List α} (h : l.length = 4) : ∃ a b c d, l = [a, b, c, d] := by
  match l, h with
  | [a, b, c, d], _ => exact ⟨a, b, c, d, rfl⟩

set_option maxRecDepth 10000 in
theorem stepAt_of {H : Type} {enc : TypeId × Value → H} {W : World} {sp : Nat → Bool} {a : Option Addr} {len cap : Nat} {d : DataW H} {p : List MemPlace} (h : DataW.Trod enc Tryz.prog W 0 sp true 25 (.slice a len cap) d p) :
    len ≤ maxLen ∧ len ≤ cap ∧ StepsAt W a len := by
  obtain ⟨fuel, hf⟩ := h
  rcases open_slice Tryz.underlying25 hf with ⟨hcs, _⟩ | ⟨x, l, c, m, n, D, Pl, hcs, _, hl, hm, hmm, hx, hcell⟩
  · simp [Value.cells] at hcs
    obtain ⟨rfl, rfl, rfl⟩ := hcs
    exact ⟨by unfold maxLen; omega, Nat.le_refl _, .inl rfl⟩
  · simp [Value.cells] at hcs
    obtain ⟨rfl, rfl, rfl⟩ := hcs
    refine ⟨Nat.le_trans hl hm, hl, ?_⟩
    by_cases h0 : len = 0
    · exact .inl h0
    · have hlm : len ≤ m := by rw [hmm]; split <;> omega
      obtain ⟨g, o, spot⟩ := x
      rw [Tryz.cellsStep] at hcell
      have hone : ∀ i, i < len → ∃ K A B C, W.cell? ((⟨g, o, spot⟩ : Addr).add (i * 4)) = some (.int .i64 K) ∧ W.cell? (((⟨g, o, spot⟩ : Addr).add (i * 4)).add 1) = some (.int .i64 A) ∧ W.cell? (((⟨g, o, spot⟩ : Addr).add (i * 4)).add 2) = some (.int .i64 B) ∧ W.cell? (((⟨g, o, spot⟩ : Addr).add (i * 4)).add 3) = some (.int .i64 C) ∧ inI K ∧ inI A ∧ inI B ∧ inI C := by
        intro i hi
        obtain ⟨cs', h1, h2⟩ := hcell i (by omega)
        obtain ⟨_, hlen, hat⟩ := World.cells?_some h1
        obtain ⟨y0, y1, y2, y3, n', _, _, t0, t1, t2, t3⟩ := trod_struct4 Tryz.underlying31 h2
        obtain ⟨c0, c1, c2, c3, rfl⟩ := list4 hlen
        simp [Tryz.cellsInt] at t0 t1 t2 t3
        obtain ⟨K, e0, _, w0⟩ := DataW.trod_int Tryz.underlying3 t0
        obtain ⟨A, e1, _, w1⟩ := DataW.trod_int Tryz.underlying3 t1
        obtain ⟨B, e2, _, w2⟩ := DataW.trod_int Tryz.underlying3 t2
        obtain ⟨C, e3, _, w3⟩ := DataW.trod_int Tryz.underlying3 t3
        simp at e0 e1 e2 e3
        subst e0 e1 e2 e3
        have a0 := hat 0 (by omega)
        have a1 := hat 1 (by omega)
        have a2 := hat 2 (by omega)
        have a3 := hat 3 (by omega)
        simp at a0 a1 a2 a3
        exact ⟨K, A, B, C, by simpa [Addr.add] using a0, a1, a2, a3, bounds_i64 w0, bounds_i64 w1, bounds_i64 w2, bounds_i64 w3⟩
      obtain ⟨K, A, B, C, c0, _⟩ := hone 0 (by omega)
      have hspot : spot = none := by simpa [Addr.add] using World.cell?_spot c0
      subst hspot
      refine .inr ⟨g, o, rfl, ?_, ?_⟩
      · have c0' : W.cell? ⟨g, o, none⟩ = some (.int .i64 K) := by simpa [Addr.add] using c0
        exact World.block_lt_of_cell? W _ c0'
      · intro i hi
        obtain ⟨K, A, B, C, c0, c1, c2, c3, r⟩ := hone i hi
        simp only [addr_add_at] at c0 c1 c2 c3
        exact ⟨K, A, B, C, c0, c1, c2, c3, r⟩

end Go.Proofs.YtekbjlhbjcikdaaGreat
