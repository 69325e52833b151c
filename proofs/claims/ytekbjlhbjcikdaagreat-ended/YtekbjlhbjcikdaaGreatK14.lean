/-
  Walk of accordkeep.Ended.
-/
import Derived.Test.YtekbjlhbjcikdaaGreatK13
namespace Go.Proofs.YtekbjlhbjcikdaaGreat
open Go.RowKit Acc Go.MuLone

/-- What the renewing of the nodes has come to. -/
structure Ren (s : St) (n : Nat) : Prop where
  neat : Neat s
  up : ∀ i, i < n → s.up i = true ∧ s.fuse i = none
  set : 0 < n → Settled s
theorem Ren.next {s : St} {n : Nat} (h : Ren s n) (hk : Ok s) (hn : n ≤ s.parts) : Ren (s.renew n) (n + 1) := by
  obtain ⟨a, b, c, d, e, f⟩ := renew_facts hk h.neat n hn
  refine ⟨a, ?_, ?_⟩
  · intro i hi
    by_cases q : i = n
    · subst q; exact ⟨b, c⟩
    · obtain ⟨d1, d2⟩ := d i q
      rw [d1, d2]; exact h.up i (by omega)
  · intro _
    by_cases q : n = 0
    · exact e q
    · intro t
      unfold St.state
      rw [f q]
      exact h.set (by omega) t
theorem Ren.all {s : St} (h : Ren s 4) (h3 : s.parts = 3) : NoFuse s ∧ P1 s := by
  refine ⟨?_, ?_, h.set (by omega)⟩
  · intro n
    by_cases q : n < 4
    · exact (h.up n q).2
    · exact (h.neat.far n (by omega)).2
  · intro n
    by_cases q : n < 4
    · exact (h.up n q).1
    · exact (h.neat.far n (by omega)).1

/-- Between the ticks. -/
structure Tck (s : St) (n : Nat) : Prop where
  nf : NoFuse s
  p1 : P1 s
  fl : s.fly = []
  dn : ∀ q, 1 ≤ q → q < n → ∀ t, s.state q t ≠ 2

/-- While the messages come that follow the tick of node n. -/
def PT (n : Nat) (s : St) : Prop := if n = 0 then P1 s else P2 n s
theorem PT.step {n : Nat} {s : St} (hk : Ok s) (hf : NoFuse s) (h : PT n s) (hn : s.fly ≠ []) : PT n (s.deliverP 0).1 := by
  unfold PT at *
  split at h
  · rename_i e; rw [if_pos e]; exact P1.step hk hf h hn
  · rename_i e; rw [if_neg e]; exact P2.step hk hf h hn
theorem Tck.tick {n : Nat} {s : St} (h : Tck s n) (hk : Ok s) (h3 : s.parts = 3) (hn : n ≤ 3) : s.tickP n = ((s.tick n).1, 0) ∧ NoFuse (s.tick n).1 ∧ PT n (s.tick n).1 := by
  have hE : s.nodeE n true = 0 := by unfold St.nodeE; rw [if_pos (by rw [h3]; omega)]; simp [h.p1.1 n]
  refine ⟨by unfold St.tickP; rw [if_pos hE]; simp, ?_⟩
  unfold PT
  by_cases e : n = 0
  · subst e
    have : s.tick 0 = (s, true) := by unfold St.tick St.giveAll; rw [if_pos rfl]; exact giveFrom_settled h.p1.2 _ _
    rw [this, if_pos rfl]; exact ⟨h.nf, h.p1⟩
  · rw [if_neg e]
    exact P2.begin hk h3 h.nf h.p1 h.fl (by omega) h.dn
theorem PT.finish {n : Nat} {s : St} (hf : NoFuse s) (h : PT n s) (hfl : s.fly = []) : Tck s (n + 1) := by
  unfold PT at h
  split at h
  · rename_i e; exact ⟨hf, h, hfl, fun q h1 h2 => by omega⟩
  · refine ⟨hf, h.1, hfl, fun q h1 h2 => ?_⟩
    by_cases e : q = n
    · subst e; exact P2.finish h hfl
    · exact h.2.2.2 q h1 (by omega)

set_option maxRecDepth 100000 in
set_option maxHeartbeats 8000000 in
theorem endedLaw_any (w : World) (ra : Option Addr) (rn rc : Nat) (hrn : rn ≤ maxLen) (_hrc : rn ≤ rc) (hra : StepsAt w ra rn) :
    Calls Tryz.prog 9 #[.slice ra rn rc] w fun e w' => e = .returned (.bool true) ∧ Below w.heap.size w w' := by
  unfold maxLen at hrn
  have hbg := hide (troubled_any w)
  go_enter Tryz.func9, Tryz.ntmps9
  go_wp2_with fail
  refine (unhide hbg).mono ?_
  rintro e w1 ⟨rfl, hb1⟩
  clear hbg
  have hfr := hide (run_fresh w1)
  go_wp2_with fail
  refine (unhide hfr).mono ?_
  rintro e w2 ⟨rb, wb, rfl, hK⟩
  have hK0 := Kt.lift hb1 hK
  clear hfr hK hb1
  go_wp2_with fail
  go_loopw [5] (fun i wr => ∃ (j : Nat) (s : St), j ≤ rn ∧ j ≤ 70 ∧ i = .int .i64 (j : Int) ∧ Kt (fun _ => none) w rb wb wr s ∧ Hid (Neat s)) (fun i _ => 70 - (intOf i).toNat)
  case atStart => exact ⟨0, St.new 3, by omega, by omega, rfl, hK0, Neat.new 3⟩
  case round =>
    clear hK0
    obtain ⟨j, s, hj, hj70, rfl, hK, hN⟩ := hrel
    by_cases hgo : j < rn ∧ j < 70
    · obtain ⟨hj1, hj2⟩ := hgo
      obtain ⟨g, o, K, A, B, C, rfl, m0, m1, m2, m3, iK, iA, iB, iC⟩ := hra.get hK j hj1
      have hst := hide (step_any hK K A B C iK iA iB iC)
      go_wp2_with fail
      refine (unhide hst).mono ?_
      rintro e w3 ⟨rfl, hK3⟩
      have hN3 := hide ((unhide hN).step hK.ok.1 K A B C)
      go_wp2
      exact ⟨⟨j + 1, _, by omega, by omega, by go_num, hK3, hN3⟩, by simp [intOf]; omega⟩
    · have hren : Ren s 0 := ⟨unhide hN, fun i hi => by omega, fun hh => by omega⟩
      have HREN := hide hren
      clear hN hren
      have hex : (j < rn ∧ ¬ (j : Int) < 70) ∨ ¬ j < rn := by omega
      clear hgo
      rcases hex with ⟨hjr, hj7⟩ | hjr
      all_goals
        go_wp2_with fail
        go_loopw [7] (fun i wr => ∃ (n : Nat) (s : St), n ≤ 4 ∧ i = .int .i64 (n : Int) ∧ Kt (fun _ => none) w rb wb wr s ∧ Hid (Ren s n)) (fun i _ => 4 - (intOf i).toNat)
        case atStart => exact ⟨0, s, by omega, rfl, hK, HREN⟩
        case round =>
          obtain ⟨n, sn, hn4, rfl, hKn, hRn⟩ := hrel
          have r0 := hKn.cells.1
          by_cases hn : n < 4
          · have hni : (n : Int) ≤ 3 := by omega
            have hp3 := hKn.ok.2
            have hin : (0 : Int) ≤ (n : Int) ∧ (n : Int) ≤ sn.parts := by rw [hp3]; omega
            have hup := up_kt hKn (n : Int)
            have hu0 : sn.upP n = (sn.up n, 0) := by unfold St.upP; rw [if_pos hin]; simp
            rw [hu0] at hup
            have hR2 := hide ((unhide hRn).next hKn.ok.1 (by omega))
            cases hu : sn.up n with
            | true =>
              rw [hu] at hup
              have HUP := hide hup
              have hE : sn.nodeE n true = 0 := by unfold St.nodeE; rw [if_pos hin]; simp [hu]
              have hc0 : sn.crashP n = (sn.down n, 0) := by unfold St.crashP; rw [if_pos hE]; simp
              have hE2 : (sn.down n).nodeE n false = 0 := by unfold St.nodeE; rw [if_pos (show (0:Int) ≤ n ∧ (n:Int) ≤ (sn.down n).parts from hin)]; simp [St.down]
              have hr0 : (sn.down n).recoverP n = (sn.renew n, 0) := by unfold St.recoverP; rw [if_pos hE2]; unfold St.renew; rw [hu]; simp
              have HC := hide hc0
              have HRR := hide hr0
              clear hup hu0 hu hE hc0 hE2 hr0 hin hp3
              go_wp2_with fail
              refine (unhide HUP).mono ?_
              rintro e w3 ⟨rfl, hK3⟩
              have r3 := hK3.cells.1
              have hcr := crash_kt hK3 (n : Int)
              rw [unhide HC] at hcr
              have HCR := hide hcr
              clear hcr
              go_wp2_with fail
              refine (unhide HCR).mono ?_
              rintro e w4 ⟨rfl, hK4⟩
              have r4 := hK4.cells.1
              have hre := recover_kt hK4 (n : Int)
              rw [unhide HRR] at hre
              have HRE := hide hre
              clear hre
              go_wp2_with fail
              refine (unhide HRE).mono ?_
              rintro e w5 ⟨rfl, hK5⟩
              go_wp2
              exact ⟨⟨n + 1, _, by omega, by go_num, hK5, hR2⟩, by simp [intOf]; omega⟩
            | false =>
              rw [hu] at hup
              have HUP := hide hup
              have hE2 : sn.nodeE n false = 0 := by unfold St.nodeE; rw [if_pos hin]; simp [hu]
              have hr0 : sn.recoverP n = (sn.renew n, 0) := by unfold St.recoverP; rw [if_pos hE2]; unfold St.renew; rw [hu]; simp
              have HRR := hide hr0
              clear hup hu0 hu hE2 hr0 hin hp3
              go_wp2_with fail
              refine (unhide HUP).mono ?_
              rintro e w3 ⟨rfl, hK3⟩
              have r3 := hK3.cells.1
              have hre := recover_kt hK3 (n : Int)
              rw [unhide HRR] at hre
              have HRE := hide hre
              clear hre
              go_wp2_with fail
              refine (unhide HRE).mono ?_
              rintro e w5 ⟨rfl, hK5⟩
              go_wp2
              exact ⟨⟨n + 1, _, by omega, by go_num, hK5, hR2⟩, by simp [intOf]; omega⟩
          · have hni : ¬ (n : Int) ≤ 3 := by omega
            have hn4' : n = 4 := by omega
            subst hn4'
            obtain ⟨hnf, hp1⟩ := (unhide hRn).all hKn.ok.2
            have hcm := hide (comes_any P1 (fun s a b c d => P1.step a b c d) hKn hnf hp1)
            clear hn hnf hp1
            go_wp2_with fail
            refine (unhide hcm).mono ?_
            rintro e w3 ⟨s3, rfl, hK3, q1, q2, q3, q4⟩
            have HT : Hid (Tck s3 0) := ⟨q1, q2, q3, fun q h1 h2 => by omega⟩
            clear q1 q2 q3 q4 hcm
            go_wp2_with fail
            go_loopw [12, 13] (fun fi i wr => ∃ (n : Nat) (s : St), n ≤ 4 ∧ fi = .bool true ∧ i = .int .i64 (n : Int) ∧ Kt (fun _ => none) w rb wb wr s ∧ Hid (Tck s n)) (fun _ i _ => 4 - (intOf i).toNat)
            case atStart => exact ⟨0, s3, by omega, rfl, rfl, hK3, HT⟩
            case round =>
              clear hK3 HT
              obtain ⟨n, s4, hn4, rfl, rfl, hK4, hT4⟩ := hrel
              have r04 := hK4.cells.1
              by_cases hn : n < 4
              · have hni : (n : Int) ≤ 3 := by omega
                obtain ⟨z1, z2, z3⟩ := (unhide hT4).tick hK4.ok.1 hK4.ok.2 (by omega)
                have htk := tick_kt hK4 (n : Int)
                rw [z1] at htk
                have HTK := hide htk
                have HZ := hide (And.intro z2 z3)
                clear htk z1 z2 z3
                go_wp2_with fail
                refine (unhide HTK).mono ?_
                rintro e w5 ⟨rfl, hK5⟩
                have hcm2 := hide (comes_any (PT n) (fun s a b c d => PT.step a b c d) hK5 (unhide HZ).1 (unhide HZ).2)
                clear HTK HZ
                go_wp2_with fail
                refine (unhide hcm2).mono ?_
                rintro e w6 ⟨s6, rfl, hK6, q1, q2, q3, q4⟩
                have HT6 := hide (PT.finish q1 q2 q3)
                clear q1 q2 q3 q4 hcm2
                go_wp2
                exact ⟨⟨n + 1, s6, by omega, rfl, by go_num, hK6, HT6⟩, by simp [intOf]; omega⟩
              · have hni : ¬ (n : Int) ≤ 3 := by omega
                have hn4' : n = 4 := by omega
                subst hn4'
                have hok4 := hK4.ok
                have HE := hide (endP hok4.1 hok4.2 (unhide hT4).p1 (fun q h1 h2 => (unhide hT4).dn q h1 (by omega)))
                clear hn hT4
                have h12 := hok4.1.inv.d12
                have HOK := hide hok4
                clear hok4
                go_wp2_with fail
                go_loopw [15] (fun i wr => ∃ j : Nat, j ≤ s4.deals.length ∧ i = .int .i64 ((j : Int) + 1) ∧ Kt (fun _ => none) w rb wb wr s4) (fun i _ => (13 - intOf i).toNat)
                case atStart => exact ⟨0, Nat.zero_le _, rfl, hK4⟩
                case round =>
                  clear hK4 r04
                  obtain ⟨j, hj, rfl, hK7⟩ := hrel
                  obtain ⟨r0, a1, c1, r1⟩ := hK7.cells
                  by_cases hlt : j < s4.deals.length
                  · have HJ := hide hlt
                    clear hlt
                    have hjl : (j : Int) + 1 ≤ (s4.deals.length : Int) := by have := unhide HJ; omega
                    have hst := state_kt hK7 0 ((j + 1 : Nat) : Int)
                    have hs0 : s4.stateP 0 ((j + 1 : Nat) : Int) = (s4.state 0 (j + 1), 0) := by unfold St.stateP; rw [if_pos (by have := unhide HJ; omega)]; simp
                    rw [hs0] at hst
                    have HST := hide hst
                    clear hst hs0
                    go_wp2_with fail
                    rw [show ((j : Int) + 1) = ((j + 1 : Nat) : Int) from by omega]
                    refine (unhide HST).mono ?_
                    rintro e w8 ⟨rfl, hK8⟩
                    clear HST
                    go_wp2_with fail
                    go_loopw [18] (fun i wr => ∃ q : Nat, q ≤ 4 ∧ i = .int .i64 (q : Int) ∧ Kt (fun _ => none) w rb wb wr s4) (fun i _ => (4 - intOf i).toNat)
                    case atStart => exact ⟨0, by omega, rfl, hK8⟩
                    case round =>
                      clear hK8
                      obtain ⟨q, hq, rfl, hK9⟩ := hrel
                      obtain ⟨r09, a9, c9, r19⟩ := hK9.cells
                      by_cases hq4 : q < 4
                      · have hqi : (q : Int) ≤ 3 := by omega
                        have hst := state_kt hK9 (q : Int) ((j + 1 : Nat) : Int)
                        have hp3 := (unhide HOK).2
                        have hs0 : s4.stateP q ((j + 1 : Nat) : Int) = (s4.state q (j + 1), 0) := by unfold St.stateP; rw [if_pos (by have := unhide HJ; omega)]; simp
                        rw [hs0] at hst
                        have HST := hide hst
                        clear hst hs0 hp3
                        go_wp2_with fail
                        rw [show ((j : Int) + 1) = ((j + 1 : Nat) : Int) from by omega]
                        refine (unhide HST).mono ?_
                        rintro e w10 ⟨rfl, hK10⟩
                        clear HST
                        obtain ⟨g3, c3, a3, n3, cap3, rt3, hcc, rg3, hn3, hw3⟩ := hK10.tran j (unhide HJ)
                        have hw6 : (s4.deals.getD j []).length ≤ 6 := (unhide HOK).1.inv.wf.w6 j
                        have r010 := hK10.cells.1
                        obtain ⟨hb1, hb2⟩ := (unhide HE).none1 q (j + 1) (by omega)
                        have g1 : ((s4.state q (j + 1) : Int) == 1) = false := by rw [beq_eq_false_iff_ne]; omega
                        have g2 : ((s4.state q (j + 1) : Int) == 2) = false := by rw [beq_eq_false_iff_ne]; omega
                        have hall : s4.state 0 (j + 1) = 3 → q = 0 ∨ hasPart (s4.deals.getD j []) q = true → ((s4.state q (j + 1) : Int) != 3) = false := by
                          intro h1 h2
                          have : s4.state q (j + 1) = 3 := by
                            rcases h2 with e | e
                            · subst e; exact h1
                            · by_cases HQ0 : q = 0
                              · rw [HQ0]; exact h1
                              have HQ1 : 1 ≤ q := by omega
                              exact (unhide HE).all3 q (j + 1) h1 ((membersTo_mem _ _ _).2 ⟨by have := HQ1; omega, by omega, e⟩)
                          rw [this]; rfl
                        have HALL := hide hall
                        clear hall hb1 hb2
                        generalize s4.deals.getD j [] = ws at *
                        subst hn3
                        have HMB := hide (member_any a3 ws.length cap3 ws (q : Int) w10 rfl (by omega) hw3)
                        generalize s4.state q (j + 1) = st at *
                        clear hw3 hw6
                        have hcc3 : ((s4.state 0 (j + 1) : Int) == 3) = true ∧ s4.state 0 (j + 1) = 3 ∨ ((s4.state 0 (j + 1) : Int) == 3) = false := by
                          by_cases e : s4.state 0 (j + 1) = 3
                          · left; rw [e]; exact ⟨rfl, rfl⟩
                          · right; rw [beq_eq_false_iff_ne]; omega
                        by_cases hq0 : q = 0
                        · have hqz : ((q : Int) == 0) = true := by rw [hq0]; rfl
                          rcases hcc3 with ⟨c3t, c3e⟩ | c3f
                          · have hs3 := unhide HALL c3e (Or.inl hq0)
                            clear HALL c3e hq0
                            go_wp2
                            exact ⟨⟨q + 1, by omega, by go_num, hK10⟩, by simp [intOf]; omega⟩
                          · clear HALL hq0
                            go_wp2
                            exact ⟨⟨q + 1, by omega, by go_num, hK10⟩, by simp [intOf]; omega⟩
                        · have hqz : ((q : Int) == 0) = false := by rw [beq_eq_false_iff_ne]; omega
                          clear hq0
                          go_wp2_with fail
                          refine (unhide HMB).mono ?_
                          rintro e w11 ⟨rfl, rfl⟩
                          cases hb : hasPart ws q with
                          | true =>
                            rcases hcc3 with ⟨c3t, c3e⟩ | c3f
                            · have hs3 := unhide HALL c3e (Or.inr hb)
                              clear HALL c3e hb
                              go_wp2
                              exact ⟨⟨q + 1, by omega, by go_num, hK10⟩, by simp [intOf]; omega⟩
                            · clear HALL hb
                              go_wp2
                              exact ⟨⟨q + 1, by omega, by go_num, hK10⟩, by simp [intOf]; omega⟩
                          | false =>
                            rcases hcc3 with ⟨c3t, c3e⟩ | c3f
                            · clear HALL c3e hb
                              go_wp2
                              exact ⟨⟨q + 1, by omega, by go_num, hK10⟩, by simp [intOf]; omega⟩
                            · clear HALL hb
                              go_wp2
                              exact ⟨⟨q + 1, by omega, by go_num, hK10⟩, by simp [intOf]; omega⟩
                      · have hqi : ¬ (q : Int) ≤ 3 := by omega
                        clear hq4
                        have := unhide HJ
                        go_wp2
                        exact ⟨⟨j + 1, by omega, by go_num, hK9⟩, by simp [intOf]; omega⟩
                  · have hjl : ¬ (j : Int) + 1 ≤ (s4.deals.length : Int) := by omega
                    clear hlt
                    go_wp2_with fail
                    go_loopw [22] (fun i wr => ∃ p : Nat, 1 ≤ p ∧ p ≤ 4 ∧ i = .int .i64 (p : Int) ∧ Kt (fun _ => none) w rb wb wr s4) (fun i _ => (4 - intOf i).toNat)
                    case atStart => exact ⟨1, by omega, by omega, rfl, hK7⟩
                    case round =>
                      clear hK7 r0 r1
                      obtain ⟨p, hp1, hp4, rfl, hKp⟩ := hrel
                      by_cases hp : p < 4
                      · have hpi : (p : Int) ≤ 3 := by omega
                        go_wp2_with fail
                        go_loopw [23] (fun i wr => ∃ k : Nat, k ≤ 4 ∧ i = .int .i64 (k : Int) ∧ Kt (fun _ => none) w rb wb wr s4) (fun i _ => (4 - intOf i).toNat)
                        case atStart => exact ⟨0, by omega, rfl, hKp⟩
                        case round =>
                          clear hKp
                          obtain ⟨k, hk2, rfl, hKk⟩ := hrel
                          have r0k := hKk.cells.1
                          by_cases hk : k < 4
                          · have hki : (k : Int) < 4 := by omega
                            have hho := holder_kt hKk (p : Int) (k : Int)
                            have hh0 : s4.holderP p k = (0, 0) := by
                              unfold St.holderP; rw [if_pos (by unfold St.keyOk; rw [(unhide HOK).2]; omega)]
                              rw [show (p : Int).toNat = p from rfl, (unhide HE).free p k hp1 (by omega)]
                            rw [hh0] at hho
                            have HHO := hide hho
                            clear hho hh0
                            go_wp2_with fail
                            refine (unhide HHO).mono ?_
                            rintro e w12 ⟨rfl, hK12⟩
                            go_wp2
                            exact ⟨⟨k + 1, by omega, by go_num, hK12⟩, by simp [intOf]; omega⟩
                          · have hki : ¬ (k : Int) < 4 := by omega
                            clear hk
                            go_wp2
                            exact ⟨⟨p + 1, by omega, by omega, by go_num, hKk⟩, by simp [intOf]; omega⟩
                      · have hpi : ¬ (p : Int) ≤ 3 := by omega
                        clear hp
                        have hgr := hide (agreed_any hKp)
                        go_wp2_with fail
                        refine (unhide hgr).mono ?_
                        rintro e w13 ⟨rfl, hK13⟩
                        go_wp2
                        go_ret
                        exact ⟨rfl, hK13.blw⟩
end Go.Proofs.YtekbjlhbjcikdaaGreat
