/-
  Walk of accordkeep.Held.
-/
import Derived.Test.YtekbjlhbjcikdaaGreatK11
namespace Go.Proofs.YtekbjlhbjcikdaaGreat
open Go.RowKit Acc Go.MuLone

theorem msgStep_deals (s : St) (k A : Int) : (msgStep s k A).deals = s.deals := by
  unfold msgStep
  split
  · rfl
  · split
    · unfold St.deliverP; split; exact (dlv_deals _ _).1; rfl
    · split
      · unfold St.dropP; split <;> rfl
      · unfold St.doubleP St.dbl; split; split <;> rfl; rfl
theorem nodeStep_deals (s : St) (k A B : Int) : (nodeStep s k A B).deals = s.deals := by
  unfold nodeStep
  split
  · split
    · unfold St.crashP; split <;> rfl
    · split
      · unfold St.tickP; split; exact (tick_deals _ _).1; rfl
      · split
        · unfold St.fuseP; split; split <;> rfl; rfl
        · rfl
  · split
    · unfold St.recoverP; split; exact (rcv_deals _ _).1; rfl
    · rfl
theorem stepP_deals (s : St) (K A B C : Int) : (stepP s K A B C).deals = s.deals ∨ (stepP s K A B C).deals = s.deals ++ [writesOf A B C] := by
  unfold stepP
  split
  · exact .inl (nodeStep_deals _ _ _ _)
  · split
    · exact .inl (msgStep_deals _ _ _)
    · unfold St.beginP
      split
      · split
        · split
          · exact .inr (bgn_deals _ _).1
          · exact .inl rfl
        · exact .inl rfl
      · exact .inl rfl
theorem Fit.step {s : St} (h : Fit s) (K A B C : Int) : Fit (stepP s K A B C) := by
  intro ws hws
  rcases stepP_deals s K A B C with e | e
  · rw [e] at hws; exact h ws hws
  · rw [e] at hws
    rcases List.mem_append.1 hws with hw | hw
    · exact h ws hw
    · simp at hw; rw [hw]; exact writesOf_fit A B C
theorem Fit.new (p : Nat) : Fit (St.new p) := by intro ws h; simp [St.new] at h

set_option maxRecDepth 100000 in
set_option maxHeartbeats 4000000 in
theorem heldLaw_any (w : World) (ra : Option Addr) (rn rc : Nat) (hrn : rn ≤ maxLen) (_hrc : rn ≤ rc) (hra : StepsAt w ra rn) :
    Calls Tryz.prog 8 #[.slice ra rn rc] w fun e w' => e = .returned (.bool true) ∧ Below w.heap.size w w' := by
  unfold maxLen at hrn
  have hbg := hide (troubled_any w)
  go_enter Tryz.func8, Tryz.ntmps8
  go_wp2_with fail
  refine (unhide hbg).mono ?_
  rintro e w1 ⟨rfl, hb1⟩
  clear hbg
  have hfr := hide (run_fresh w1)
  go_wp2_with fail
  refine (unhide hfr).mono ?_
  rintro e w2 ⟨rb, wb, rfl, hK⟩
  have hK0 := Kt.lift hb1 hK
  clear hfr hK hb1
  go_wp2_with fail
  go_loopw [5] (fun i wr => ∃ (j : Nat) (s : St), j ≤ rn ∧ j ≤ 70 ∧ i = .int .i64 (j : Int) ∧ Kt (fun _ => none) w rb wb wr s ∧ Hid (Fit s)) (fun i _ => 70 - (intOf i).toNat)
  case atStart => exact ⟨0, St.new 3, by omega, by omega, rfl, hK0, Fit.new 3⟩
  case round =>
    clear hK0
    obtain ⟨j, s, hj, hj70, rfl, hK, hF⟩ := hrel
    by_cases hgo : j < rn ∧ j < 70
    · obtain ⟨hj1, hj2⟩ := hgo
      obtain ⟨g, o, K, A, B, C, rfl, m0, m1, m2, m3, iK, iA, iB, iC⟩ := hra.get hK j hj1
      have hst := hide (step_any hK K A B C iK iA iB iC)
      go_wp2_with fail
      refine (unhide hst).mono ?_
      rintro e w3 ⟨rfl, hK3⟩
      have hF3 := hide ((unhide hF).step K A B C)
      generalize stepP s K A B C = s3 at *
      clear hst m0 m1 m2 m3
      go_wp2_with fail
      go_loopw [7] (fun i wr => ∃ p : Nat, 1 ≤ p ∧ p ≤ 4 ∧ i = .int .i64 (p : Int) ∧ Kt (fun _ => none) w rb wb wr s3) (fun i _ => (4 - intOf i).toNat)
      case atStart => exact ⟨1, by omega, by omega, rfl, hK3⟩
      case round =>
        obtain ⟨p, hp1, hp4, rfl, hKp⟩ := hrel
        by_cases hp : p < 4
        · have hpi : (p : Int) ≤ 3 := by omega
          go_wp2_with fail
          go_loopw [8] (fun i wr => ∃ k : Nat, k ≤ 2 ∧ i = .int .i64 (k : Int) ∧ Kt (fun _ => none) w rb wb wr s3) (fun i _ => (2 - intOf i).toNat)
          case atStart => exact ⟨0, by omega, rfl, hKp⟩
          case round =>
            obtain ⟨k, hk2, rfl, hKk⟩ := hrel
            by_cases hk : k < 2
            · have hky := hide (key_any hKk (unhide hF3) p k hp1 (by omega) (by omega))
              go_wp2_with fail
              refine (unhide hky).mono ?_
              rintro e w5 ⟨rfl, hK5⟩
              go_wp2
              exact ⟨⟨k + 1, by omega, by go_num, hK5⟩, by simp [intOf]; omega⟩
            · have hki : ¬ (k : Int) < 2 := by omega
              clear hk
              go_wp2
              exact ⟨⟨p + 1, by omega, by omega, by go_num, hKk⟩, by simp [intOf]; omega⟩
        · have hpi : ¬ (p : Int) ≤ 3 := by omega
          clear hp
          go_wp2
          exact ⟨⟨j + 1, s3, by omega, by omega, by go_num, hKp, hF3⟩, by simp [intOf]; omega⟩
    · by_cases hjr : j < rn
      · have hj70' : ¬ (j : Int) < 70 := by omega
        clear hgo
        go_wp2
        go_ret
        exact ⟨rfl, hK.blw⟩
      · clear hgo
        go_wp2
        go_ret
        exact ⟨rfl, hK.blw⟩
end Go.Proofs.YtekbjlhbjcikdaaGreat
