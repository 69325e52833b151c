/-
  Walk of accordkeep's comes; what a node's step keeps.
-/
import Derived.Test.YtekbjlhbjcikdaaGreatK10
import Derived.Test.YtekbjlhbjcikdaaGreatLiv4
namespace Go.Proofs.YtekbjlhbjcikdaaGreat
open Go.RowKit Acc Go.MuLone

theorem _root_.Acc.Neat.step {s : St} (h : Neat s) (hk : Ok s) (K A B C : Int) : Neat (stepP s K A B C) := by
  unfold stepP
  split
  · unfold nodeStep
    split
    · split
      · exact h.crashP _
      · split
        · exact h.tickP _
        · split
          · exact h.fuseP _ _
          · exact h
    · split
      · exact h.recoverP _
      · exact h
  · split
    · unfold msgStep
      split
      · exact h
      · split
        · exact h.deliverP hk _
        · split
          · exact h.dropP _
          · exact h.doubleP _
    · exact h.beginP _

set_option maxRecDepth 100000 in
set_option maxHeartbeats 2000000 in
theorem comes_any {o : Nat → Option Unit} {w0 w1 : World} {rb wb : Nat} {s : St} (P : St → Prop) (hP : ∀ s, Ok s → NoFuse s → P s → s.fly ≠ [] → P (s.deliverP 0).1) (h : Kt o w0 rb wb w1 s) (hf : NoFuse s) (hp : P s) :
    Calls Tryz.prog 25 #[.pointer (some ⟨rb, 0, none⟩)] w1 fun e w' => ∃ s', e = .returned (.bool true) ∧ Kt o w0 rb wb w' s' ∧ NoFuse s' ∧ P s' ∧ s'.fly = [] ∧ s'.deals = s.deals := by
  have hm0 := mass_le s h.ok.1.inv
  have HP := hide hP
  clear hP
  go_enter Tryz.func25, Tryz.ntmps25
  go_wp2_with fail
  go_loopw [3] (fun i wr => ∃ (j : Nat) (sj : St), i = .int .i64 (j : Int) ∧ Kt o w0 rb wb wr sj ∧ Hid (NoFuse sj ∧ P sj ∧ sj.deals = s.deals) ∧ sj.mass + j ≤ 180) (fun i _ => 1000 - (intOf i).toNat)
  case atStart => exact ⟨0, s, rfl, h, ⟨hf, hp, rfl⟩, by omega⟩
  case round =>
    obtain ⟨j, sj, rfl, hK, hH, hms⟩ := hrel
    have r0 := hK.cells.1
    have hfl := hide (flying_kt hK)
    have h60 := hK.ok.1.inv.fl
    have hj : (j : Int) < 1000 := by omega
    go_wp2_with fail
    refine (unhide hfl).mono ?_
    rintro e w2 ⟨a, cap, rfl, hK2⟩
    have r2 := hK2.cells.1
    by_cases h0 : sj.fly.length = 0
    · have q : ((sj.fly.length : Int) == 0) = true := by rw [h0]; rfl
      have H0 := hide h0
      clear h0
      go_wp2
      go_ret
      obtain ⟨a1, a2, a3⟩ := unhide hH
      exact ⟨sj, rfl, hK2, a1, a2, List.eq_nil_of_length_eq_zero (unhide H0), a3⟩
    · have q : ((sj.fly.length : Int) == 0) = false := by rw [beq_eq_false_iff_ne]; omega
      have hne : sj.fly ≠ [] := by intro e; rw [e] at h0; simp at h0
      obtain ⟨a1, a2, a3⟩ := unhide hH
      have hdl := deliver_kt hK2 0
      have hz : (sj.deliverP 0).2 = 0 := by unfold St.deliverP; rw [if_pos (by omega)]
      rw [hz] at hdl
      have HDL := hide hdl
      have hlt := first_mass hK2.ok.1 a1 hne
      have hf2 : NoFuse (sj.deliverP 0).1 := by
        cases hfl2 : sj.fly with
        | nil => exact absurd hfl2 hne
        | cons m r => exact (first_up hK2.ok.1 a1 hfl2).2
      have hd2 : (sj.deliverP 0).1.deals = s.deals := by
        have : (sj.deliverP 0).1.deals = sj.deals := by unfold St.deliverP; split; exact (dlv_deals _ _).1; rfl
        exact this.trans a3
      have HN := hide (And.intro hf2 (And.intro (unhide HP sj hK2.ok.1 a1 a2 hne) hd2))
      clear hdl hz h0 hf2 hd2 a1 a2 a3 hne
      go_wp2_with fail
      refine (unhide HDL).mono ?_
      rintro e w3 ⟨rfl, hK3⟩
      go_wp2
      exact ⟨⟨j + 1, _, by go_num, hK3, HN, by omega⟩, by simp [intOf]; omega⟩
end Go.Proofs.YtekbjlhbjcikdaaGreat
