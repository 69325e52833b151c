/-
  Proved: at this commit accordkeep.Smooth returns true for every list of steps and every order of messages, and leaves its arguments as they were: when nothing goes wrong a transaction whose keys nobody holds is done everywhere, whatever the order in which messages come. Conditions: none beyond the given statement's own.
-/
import Derived.Test.YtekbjlhbjcikdaaRows
import Derived.Test.YtekbjlhbjcikdaaS2
import Derived.WalkKit
import Derived.ProofKit
import Derived.OpenShut
import Derived.ShutString
import Derived.ChangeOld
import Derived.Below
import Derived.Lib.SmallJoins
import Derived.Deep.Slices
namespace Go.Proofs.Ytekbjlhbjcikdaa
open Go.ChangeShapes Go.WideShapes Go.ChangeAt Go.RowKit Go.Deep Go.Joins

theorem smoothOwn : ownKnob Try.prog.godebug = none := by kernel_rfl
theorem smoothLaidOut : laidOutB Try.prog = true := by kernel_rfl
theorem Try.cellsStep : Try.prog.cellsOf 30 = 4 := by kernel_rfl
theorem Try.cellsInt : Try.prog.cellsOf 3 = 1 := by kernel_rfl

theorem list4 {α : Type} {l : List α} (h : l.length = 4) : ∃ a b c d, l = [a, b, c, d] := by
  match l, h with
  | [a, b, c, d], _ => exact ⟨a, b, c, d, rfl⟩

set_option maxRecDepth 10000 in
theorem stepAt_of {H : Type} {enc : TypeId × Value → H} {W : World} {sp : Nat → Bool} {a : Option Addr} {len cap : Nat} {d : DataW H} {p : List MemPlace} (h : DataW.Trod enc Try.prog W 0 sp true 22 (.slice a len cap) d p) :
    len ≤ maxLen ∧ len ≤ cap ∧ StepAt W a len := by
  obtain ⟨fuel, hf⟩ := h
  rcases open_slice Try.underlying22 hf with ⟨hcs, _⟩ | ⟨x, l, c, m, n, D, Pl, hcs, _, hl, hm, hmm, hx, hcell⟩
  · simp [Value.cells] at hcs
    obtain ⟨rfl, rfl, rfl⟩ := hcs
    exact ⟨by unfold maxLen; omega, Nat.le_refl _, .inl rfl⟩
  · simp [Value.cells] at hcs
    obtain ⟨rfl, rfl, rfl⟩ := hcs
    refine ⟨Nat.le_trans hl hm, hl, ?_⟩
    by_cases h0 : len = 0
    · exact .inl h0
    · have hlm : len ≤ m := by rw [hmm]; split <;> omega
      obtain ⟨g, o, spot⟩ := x
      rw [Try.cellsStep] at hcell
      have hone : ∀ i, i < len → ∃ K A B C, W.cell? ((⟨g, o, spot⟩ : Addr).add (i * 4)) = some (.int .i64 K) ∧ W.cell? (((⟨g, o, spot⟩ : Addr).add (i * 4)).add 1) = some (.int .i64 A) ∧ W.cell? (((⟨g, o, spot⟩ : Addr).add (i * 4)).add 2) = some (.int .i64 B) ∧ W.cell? (((⟨g, o, spot⟩ : Addr).add (i * 4)).add 3) = some (.int .i64 C) ∧ inI A ∧ inI B ∧ inI C := by
        intro i hi
        obtain ⟨cs', h1, h2⟩ := hcell i (by omega)
        obtain ⟨_, hlen, hat⟩ := World.cells?_some h1
        obtain ⟨y0, y1, y2, y3, n', _, _, t0, t1, t2, t3⟩ := trod_struct4 Try.underlying30 h2
        obtain ⟨c0, c1, c2, c3, rfl⟩ := list4 hlen
        simp [Try.cellsInt] at t0 t1 t2 t3
        obtain ⟨K, e0, _, _⟩ := DataW.trod_int Try.underlying3 t0
        obtain ⟨A, e1, _, w1⟩ := DataW.trod_int Try.underlying3 t1
        obtain ⟨B, e2, _, w2⟩ := DataW.trod_int Try.underlying3 t2
        obtain ⟨C, e3, _, w3⟩ := DataW.trod_int Try.underlying3 t3
        simp at e0 e1 e2 e3
        subst e0 e1 e2 e3
        have a0 := hat 0 (by omega)
        have a1 := hat 1 (by omega)
        have a2 := hat 2 (by omega)
        have a3 := hat 3 (by omega)
        simp at a0 a1 a2 a3
        exact ⟨K, A, B, C, by simpa [Addr.add] using a0, a1, a2, a3, bounds_i64 w1, bounds_i64 w2, bounds_i64 w3⟩
      obtain ⟨K, A, B, C, c0, _⟩ := hone 0 (by omega)
      have hspot : spot = none := by simpa [Addr.add] using World.cell?_spot c0
      subst hspot
      refine .inr ⟨g, o, rfl, ?_, ?_⟩
      · have c0' : W.cell? ⟨g, o, none⟩ = some (.int .i64 K) := by simpa [Addr.add] using c0
        exact World.block_lt_of_cell? W _ c0'
      · intro i hi
        obtain ⟨K, A, B, C, c0, c1, c2, c3, r⟩ := hone i hi
        simp only [addr_add_at] at c0 c1 c2 c3
        exact ⟨K, A, B, C, c0, c1, c2, c3, r⟩

theorem intAt_of {H : Type} {enc : TypeId × Value → H} {W : World} {sp : Nat → Bool} {a : Option Addr} {len cap : Nat} {d : DataW H} {p : List MemPlace} (h : DataW.Trod enc Try.prog W 0 sp true 23 (.slice a len cap) d p) :
    len ≤ maxLen ∧ len ≤ cap ∧ IntAt W a len := by
  obtain ⟨fuel, hf⟩ := h
  rcases open_ints Try.underlying23 Try.underlying3 (by kernel_rfl) hf with ⟨hcs, _⟩ | ⟨x, l, c, zs, hcs, _, hl, hm, hz, _, hcell, hwz⟩
  · simp [Value.cells] at hcs
    obtain ⟨rfl, rfl, rfl⟩ := hcs
    exact ⟨by unfold maxLen; omega, Nat.le_refl _, .inl rfl⟩
  · simp [Value.cells] at hcs
    obtain ⟨rfl, rfl, rfl⟩ := hcs
    refine ⟨Nat.le_trans hl hm, hl, ?_⟩
    by_cases h0 : len = 0
    · exact .inl h0
    · have hlz : len ≤ zs.length := by rw [hz]; split <;> omega
      obtain ⟨g, o, spot⟩ := x
      have c0 := hcell 0 (by omega)
      have hspot : spot = none := by simpa [Addr.add] using World.cell?_spot c0
      subst hspot
      refine .inr ⟨g, o, rfl, ?_, ?_⟩
      · rw [addr_add_at] at c0
        have := World.block_lt_of_cell? W _ c0
        exact this
      · intro i hi
        have c := hcell i (by omega)
        rw [addr_add_at] at c
        refine ⟨_, c, ?_⟩
        have hmem : zs.getD i 0 ∈ zs := by
          rw [List.getD_eq_getElem?_getD, List.getElem?_eq_getElem (show i < zs.length by omega)]
          simp
        exact bounds_i64 (hwz _ hmem)

set_option maxRecDepth 100000 in
theorem smoothLifted (os : Os) (started : os.Started) (H : Type) (enc : TypeId × Value → H) :
    ReturnsInHanded {} Try.checked os 3 .any (Rows.smoothSpec.pre6 enc Try.prog Try.f3 Rows.smoothRow.domain false) (Rows.smoothSpec.post enc Try.prog Try.f3 false true false false) := by
  refine returnsInHanded_of_change (C := Try.checked) smoothOwn started (by kernel_rfl) Try.func3
    (ChangeSpec.witness6 (enc := enc) (C := Try.checked) false ⟨#[], #[.slice none 0 0, .slice none 0 0], []⟩ 8 (by kernel_rfl) (by kernel_rfl) (by kernel_rfl) (by kernel_rfl)) ?_
  intro W base args ds gs before hval0 hW hcnd _
  have hval : ∀ (j : Nat) t v, Try.f3.params[j]? = some t → args[j]? = some v → Value.okWide Try.prog W .any base t v := hval0
  have hW' := hW
  obtain ⟨p, q, hA0, hV, rfl, hfz, hnd⟩ := hW
  have hA : DataW.TrodAll enc Try.prog W 0 (fun _ => true) true Try.f3.params.toList args.toList ds p := hA0
  rw [Try.params3] at hA hval
  obtain ⟨v0, vs0, d0, ds0, p0, q0, hargs, rfl, rfl, h0, r0⟩ := trodAll_cons hA
  obtain ⟨v1, vs1, d1, ds1, p1, q1, rfl, rfl, rfl, h1, r1⟩ := trodAll_cons r0
  obtain ⟨rfl, rfl, rfl⟩ := trodAll_nil r1
  obtain rfl : args = #[v0, v1] := by cases args; simp_all
  obtain ⟨rfl, rfl⟩ := trodVars_none hV
  obtain ⟨a0, len0, cap0, rfl⟩ := okWide_slice Try.underlying22 (hval 0 22 v0 rfl rfl)
  have k0 := h0
  have lt0 : ∀ x ∈ p0, x.block < W.heap.size := by obtain ⟨m, hm⟩ := k0; exact DataW.trod_lt m _ _ _ hm
  obtain ⟨m0, n0, w0⟩ := stepAt_of h0
  obtain ⟨a1, len1, cap1, rfl⟩ := okWide_slice Try.underlying23 (hval 1 23 v1 rfl rfl)
  have k1 := h1
  have lt1 : ∀ x ∈ p1, x.block < W.heap.size := by obtain ⟨m, hm⟩ := k1; exact DataW.trod_lt m _ _ _ hm
  obtain ⟨m1, n1, w1⟩ := intAt_of h1
  clear hA0 hval0
  refine (smooth_any W a0 a1 len0 cap0 len1 cap1 m0 m1 n0 n1 w0 w1).mono fun e W' ⟨he, bel⟩ => ?_
  subst he
  exact ⟨_, rfl, _, _, _, [], _, [], hW', trodAll_mk1 (shut_bool Try.underlying4 _), (trodAll_cons_mk (Below.trod smoothLaidOut (by kernel_rfl) (of_decide_eq_true (by kernel_rfl)) k0 bel lt0) (trodAll_cons_mk (Below.trod smoothLaidOut (by kernel_rfl) (of_decide_eq_true (by kernel_rfl)) k1 bel lt1) trodAll_mk0)), rfl, bel.frame _, fun h => by cases h⟩

theorem smooth_holds : Rows.SmoothSaid :=
  OpenClaim.holds_of_wide 3 Try.f3 rfl rfl rfl rfl rfl rfl rfl ⟨rfl, rfl, rfl, rfl, rfl⟩ rfl rfl rfl rfl rfl (by kernel_rfl) Try.func3 (by kernel_rfl)
    (of_decide_eq_true (by kernel_rfl)) (by unfold Func.isWrapper; first | (rw [if_pos (by decide +kernel)]; kernel_rfl) | (rw [if_neg (by decide +kernel)]; exact ⟨rfl, rfl⟩))
    (fun os started H enc _ => smoothLifted os started H enc)
#print axioms smooth_holds
end Go.Proofs.Ytekbjlhbjcikdaa
