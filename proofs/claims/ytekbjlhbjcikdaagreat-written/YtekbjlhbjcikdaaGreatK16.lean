/-
  Walk of accordkeep's lawful.
-/
import Derived.Test.YtekbjlhbjcikdaaGreatK10
import Derived.Test.YtekbjlhbjcikdaaGreatWri
namespace Go.Proofs.YtekbjlhbjcikdaaGreat
open Go.RowKit Acc Go.MuLone

set_option maxRecDepth 100000 in
set_option maxHeartbeats 2000000 in
theorem lawful_any (n : Nat) (l : List (Nat × Nat)) (N : Nat) (a : Option Addr) (cap : Nat) (w : World) (hN : N ≤ 12) (hlen : l.length ≤ 1000) (hn : n ≤ 3) (ho : Owns w 43 2 ⟨a, l.length, cap⟩ (recCells l))
    (hr : ∀ (j : Nat) (x : Nat × Nat), l[j]? = some x → 1 ≤ x.1 ∧ x.1 ≤ N) (hl : ∀ t, Law n (hist l t)) :
    Calls Tryz.prog 19 #[.int .i64 n, .slice a l.length cap, .int .i64 N] w fun e w' => e = .returned (.bool true) ∧ Below w.heap.size w w' := by
  have HR := hide hr
  have HF := hide (fun (j : Nat) (x : Nat × Nat) h => law_follow hl j x h)
  clear hr hl
  go_enter Tryz.func19, Tryz.ntmps19
  go_wp2_with fail
  go_loopw [7] (fun i wr => ∃ q : Nat, q ≤ N ∧ i = .int .i64 ((q : Int) + 1) ∧ Below w.heap.size w wr) (fun i _ => (13 - intOf i).toNat)
  case atStart => exact ⟨0, by omega, rfl, Below.refl _ _⟩
  case round =>
    obtain ⟨q, hq, rfl, hb0⟩ := hrel
    by_cases hqN : q < N
    · have hqi : (q : Int) + 1 ≤ (N : Int) := by omega
      have HQ := hide hqN
      clear hqN
      go_wp2_with fail
      go_loopw [8, 9] (fun sv i wr => ∃ j : Nat, j ≤ l.length ∧ i = .int .i64 (j : Int) ∧ sv = .int .i64 ((stOf (l.take j) (q + 1) : Nat) : Int) ∧ Below w.heap.size w wr) (fun _ i _ => l.length - (intOf i).toNat)
      case atStart => exact ⟨0, by omega, rfl, rfl, hb0⟩
      case round =>
        obtain ⟨j, hj, rfl, rfl, hbq⟩ := hrel
        have ho : Owns wr 43 2 ⟨a, l.length, cap⟩ (recCells l) := ownsRow_below ho hbq
        by_cases hlt : j < l.length
        · have hji : (j : Int) < (l.length : Int) := by omega
          have hx : l[j]? = some l[j] := List.getElem?_eq_getElem _
          generalize l[j] = x at hx
          obtain ⟨g, ha, hcap, _, hc⟩ := ho.at (by simp; omega)
          simp only at ha hcap
          subst ha
          obtain ⟨c0, c1⟩ := recCells_get l j x hx
          have c0 := hc _ _ c0
          have c1 := hc _ _ c1
          rw [show 2 * j = j * 2 from by omega] at c0 c1
          obtain ⟨x1, x2⟩ := x
          have hrg := unhide HR j _ hx
          have hmf := unhide HF j _ hx
          have HT := hide (stOf_take l (q + 1) j _ hx)
          simp only at hrg hmf c0 c1
          have u1 : ¬ (x1 : Int) < 1 := by omega
          have u2 : ¬ (N : Int) < (x1 : Int) := by omega
          clear hc ho hx
          by_cases e1 : x1 = q + 1
          · have f1 : ((x1 : Int) != (q : Int) + 1) = false := by rw [e1]; simp
            rw [e1] at hmf
            generalize stOf (l.take j) (q + 1) = S at *
            have HE := hide e1
            have hfin : Hid (stOf (l.take (j + 1)) (q + 1) = x2) := by show _ = _; rw [unhide HT]; simp only; rw [if_pos (unhide HE)]
            by_cases n0 : n = 0
            · have fn : ((n : Int) == 0) = true := by rw [n0]; rfl
              have fp : ¬ (0 : Int) < (n : Int) := by omega
              have hm2 : (S = 0 ∧ x2 = 1) ∨ (S = 1 ∧ x2 = 3) ∨ (S = 1 ∧ x2 = 4) := by unfold MayFollow firstOf at hmf; rw [if_pos n0] at hmf; omega
              clear hmf n0 e1 HT HE hrg
              rcases hm2 with ⟨rfl, rfl⟩ | ⟨rfl, rfl⟩ | ⟨rfl, rfl⟩
              all_goals
                go_wp2
                exact ⟨⟨j + 1, by omega, by go_num, by rw [unhide hfin]; rfl, hbq.more (below_alloc _ _)⟩, by simp [intOf]; omega⟩
            · have fn : ((n : Int) == 0) = false := by rw [beq_eq_false_iff_ne]; omega
              have fp : (0 : Int) < (n : Int) := by omega
              have hm2 : (S = 0 ∧ x2 = 2) ∨ (S = 0 ∧ x2 = 4) ∨ (S = 2 ∧ x2 = 3) ∨ (S = 2 ∧ x2 = 4) := by unfold MayFollow firstOf at hmf; rw [if_neg n0] at hmf; omega
              clear hmf n0 e1 HT HE hrg
              rcases hm2 with ⟨rfl, rfl⟩ | ⟨rfl, rfl⟩ | ⟨rfl, rfl⟩ | ⟨rfl, rfl⟩
              all_goals
                go_wp2
                exact ⟨⟨j + 1, by omega, by go_num, by rw [unhide hfin]; rfl, hbq.more (below_alloc _ _)⟩, by simp [intOf]; omega⟩
          · have f1 : ((x1 : Int) != (q : Int) + 1) = true := by rw [bne_iff_ne]; omega
            have hfin : Hid (stOf (l.take (j + 1)) (q + 1) = stOf (l.take j) (q + 1)) := by show _ = _; rw [unhide HT]; simp only; rw [if_neg e1]
            clear hmf e1 HT hrg
            go_wp2
            exact ⟨⟨j + 1, by omega, by go_num, by rw [unhide hfin], hbq.more (below_alloc _ _)⟩, by simp [intOf]; omega⟩
        · have hji : ¬ (j : Int) < (l.length : Int) := by omega
          clear hlt
          have := unhide HQ
          go_wp2
          exact ⟨⟨q + 1, by omega, by go_num, hbq⟩, by simp [intOf]; omega⟩
    · have hqi : ¬ (q : Int) + 1 ≤ (N : Int) := by omega
      clear hqN
      go_wp2
      go_ret
      exact ⟨rfl, hb0⟩
end Go.Proofs.YtekbjlhbjcikdaaGreat
