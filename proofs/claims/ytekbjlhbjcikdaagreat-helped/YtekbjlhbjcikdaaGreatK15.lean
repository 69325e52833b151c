/-
  Walk of accordkeep.Helped.
-/
import Derived.Test.YtekbjlhbjcikdaaGreatK13
namespace Go.Proofs.YtekbjlhbjcikdaaGreat
open Go.RowKit Acc Go.MuLone

/-- A run with a list of numbers beside it. -/
def Kl (w : World) (rb wb : Nat) (wr : World) (s : St) (v : Value) (l : List Nat) : Prop :=
  ∃ L K, K.rb = rb ∧ L.wb = wb ∧ Kp wr L K s ∧ Ext (fun _ => none) w (ownK L K) wr ∧ ∃ a cap, v = .slice a l.length cap ∧ Owns wr 3 1 ⟨a, l.length, cap⟩ (natCells l) ∧ ∀ x, a = some x → ownK L K x.block = none ∧ w.heap.size ≤ x.block
theorem Kt.withNil {w wr : World} {rb wb : Nat} {s : St} (h : Kt (fun _ => none) w rb wb wr s) : Kl w rb wb wr s (.slice none 0 0) [] := by
  obtain ⟨L, K, a, b, c, d⟩ := h
  exact ⟨L, K, a, b, c, d, none, 0, rfl, ⟨rfl, .inl ⟨rfl, rfl⟩⟩, fun x hx => by cases hx⟩
theorem Kl.kt {w wr : World} {rb wb : Nat} {s : St} {v : Value} {l : List Nat} (h : Kl w rb wb wr s v l) : Kt (fun _ => none) w rb wb wr s := by
  obtain ⟨L, K, a, b, c, d, _⟩ := h
  exact ⟨L, K, a, b, c, d⟩
theorem Kl.use {w wr : World} {rb wb : Nat} {s : St} {v : Value} {l : List Nat} (h : Kl w rb wb wr s v l) : ∃ o, Kt o wr rb wb wr s ∧ ∀ w2 s', Kt o wr rb wb w2 s' → Kl w rb wb w2 s' v l := by
  obtain ⟨L, K, rfl, rfl, hp, hE, a, cap, rfl, hO, hx⟩ := h
  refine ⟨ownK L K, hp.refl, ?_⟩
  rintro w2 s' ⟨L', K', e1, e2, hp', hE'⟩
  exact ⟨L', K', e1, e2, hp', hE.trans hE', a, cap, rfl, hO.frame (fun x hx' => (hE'.keep _ (hO.lt x hx') (hx x hx').1).1), fun x hx' => ⟨(hE'.keep _ (hO.lt x hx') (hx x hx').1).2, (hx x hx').2⟩⟩
theorem Kl.row {w wr : World} {rb wb : Nat} {s : St} {v : Value} {l : List Nat} (h : Kl w rb wb wr s v l) : ∃ a cap, v = .slice a l.length cap ∧ wr.ownsRow 0 3 1 (.slice a l.length cap) l.length (natCells l) := by
  obtain ⟨L, K, _, _, _, _, a, cap, hv, hO, _⟩ := h
  exact ⟨a, cap, hv, hO⟩
theorem Kl.grow {w wr W w3 : World} {rb wb : Nat} {s : St} {a : Option Addr} {cap k cap' t : Nat} {l : List Nat} (h : Kl w rb wb wr s (.slice a l.length cap) l) (hW : Below wr.heap.size wr W)
    (g1 : w3.ownsRow 0 3 1 (.slice (some ⟨k, 0, none⟩) (l.length + 1) cap') (l.length + 1) (natCells l ++ [.int .i64 (t : Int)])) (g2 : W.grownBy w3 (Value.slice a l.length cap).ownBlock) (g3 : a = some ⟨k, 0, none⟩ ∨ W.heap.size ≤ k) :
    Kl w rb wb w3 s (.slice (some ⟨k, 0, none⟩) (l.length + 1) cap') (l ++ [t]) := by
  obtain ⟨L, K, rfl, rfl, hp, hE, a', cap'', hv, hO, hx⟩ := h
  injection hv with v1 v2 v3
  subst v1 v3
  have hs : wr.heap.size ≤ w3.heap.size := Nat.le_trans hW.size g2.size
  have hk : ∀ b, b < wr.heap.size → (∀ x, a = some x → x.block ≠ b) → w3.heap[b]? = wr.heap[b]? := by
    intro b hb hne
    refine (g2.block b (Nat.lt_of_lt_of_le hb hW.size) ?_).trans (hW.block b hb)
    intro e
    cases a with
    | none => simp [Value.ownBlock] at e
    | some x =>
      simp only [Value.ownBlock, Option.some.injEq] at e
      exact hne x rfl e.symm
  have hown : ∀ b, b < wr.heap.size → ownK L K b ≠ none → w3.heap[b]? = wr.heap[b]? := by
    intro b hb hn
    refine hk b hb fun x ha e => hn ?_
    rw [← e]; exact (hx x ha).1
  have hfree : ∀ b, wr.heap.size ≤ b → ownK L K b = none := by
    intro b hb
    refine ownK_none.2 ⟨hp.rep.own2_free hb, ?_⟩
    cases hh : K.own b with
    | none => rfl
    | some u => have := hp.run.lt _ _ hh; omega
  refine ⟨L, K, rfl, rfl, ⟨hp.rep.frame hs fun b u hb => hown b (hp.rep.own2_lt hb) ?_, hp.run.frame hs fun b u hb => hown b (hp.run.lt _ _ hb) ?_, hp.ap, hp.ok, hp.p3⟩, ⟨?_, ?_, ?_, Nat.le_trans hE.size hs, ?_⟩, some ⟨k, 0, none⟩, cap', by simp, ?_, ?_⟩
  · intro e; rw [(ownK_none.1 e).1] at hb; cases hb
  · intro e; rw [(ownK_none.1 e).2] at hb; cases hb
  · exact (g2.os.trans hW.os).trans hE.os
  · exact (g2.tape.trans hW.tape).trans hE.tape
  · exact (g2.output.trans hW.output).trans hE.output
  · intro b hb _
    obtain ⟨k1, k2⟩ := hE.keep b hb rfl
    exact ⟨(hk b (Nat.lt_of_lt_of_le hb hE.size) fun x ha e => by have := (hx x ha).2; omega).trans k1, k2⟩
  · rw [natCells_append]
    have : (l ++ [t]).length = l.length + 1 := by simp
    rw [this]
    exact g1
  · intro x hx'
    injection hx' with hx'
    subst hx'
    rcases g3 with g3 | g3
    · exact hx _ g3
    · exact ⟨hfree k (Nat.le_trans hW.size g3), Nat.le_trans hE.size (Nat.le_trans hW.size g3)⟩
theorem Kl.get {w wr : World} {rb wb : Nat} {s : St} {a : Option Addr} {n cap : Nat} {l : List Nat} (h : Kl w rb wb wr s (.slice a n cap) l) (i t : Nat) (hi : l[i]? = some t) : ∃ g, a = some ⟨g, 0, none⟩ ∧ n ≤ cap ∧ wr.cell? ⟨g, i, none⟩ = some (.int .i64 (t : Int)) := by
  obtain ⟨L, K, _, _, _, _, a', cap', hv, hO, _⟩ := h
  injection hv with v1 v2 v3
  subst v1 v2 v3
  have hl : i < l.length := (List.getElem?_eq_some_iff.1 hi).1
  obtain ⟨g, e1, e3, _, e2⟩ := hO.at (by simp; omega)
  exact ⟨g, e1, e3, e2 i _ (by simp [natCells, hi])⟩

/-- What the nodes' going down and coming up has come to. -/
structure RenH (s : St) (n : Nat) : Prop where
  neat : Neat s
  fl : s.fly = []
  up : ∀ i, 1 ≤ i → i < n → s.up i = true ∧ s.fuse i = none
  zero : 0 < n → s.up 0 = false
theorem renew_fly (s : St) (n : Nat) (hn : n ≠ 0) : (s.renew n).fly = s.fly := by
  unfold St.renew St.rcv
  rw [if_neg hn]
  simp only [St.rise]
  split <;> rfl
theorem RenH.part {s : St} {n : Nat} (h : RenH s n) (hk : Ok s) (hn : n ≤ s.parts) (h0 : n ≠ 0) : RenH (s.renew n) (n + 1) := by
  obtain ⟨a, b, c, d, e, f⟩ := renew_facts hk h.neat n hn
  refine ⟨a, (renew_fly s n h0).trans h.fl, ?_, fun _ => by rw [(d 0 (Ne.symm h0)).1]; exact h.zero (by omega)⟩
  intro i h1 h2
  by_cases q : i = n
  · subst q; exact ⟨b, c⟩
  · obtain ⟨d1, d2⟩ := d i q
    rw [d1, d2]; exact h.up i h1 (by omega)
theorem RenH.first {s : St} (h : RenH s 0) : (s.up 0 = true → RenH (s.down 0) 1) ∧ (s.up 0 = false → RenH s 1) := by
  refine ⟨fun _ => ⟨h.neat.down 0 (Nat.zero_le _), h.fl, fun i h1 h2 => by omega, fun _ => by simp [St.down]⟩, fun hu => ⟨h.neat, h.fl, fun i h1 h2 => by omega, fun _ => hu⟩⟩
theorem RenH.all {s : St} (h : RenH s 4) (h3 : s.parts = 3) : NoFuse s ∧ ∀ n, 1 ≤ n → s.up n = true := by
  refine ⟨?_, ?_⟩
  · intro n
    by_cases q0 : n = 0
    · subst q0; exact h.neat.cold 0 (h.zero (by omega))
    · by_cases q : n < 4
      · exact (h.up n (by omega) q).2
      · exact (h.neat.far n (by omega)).2
  · intro n hn
    by_cases q : n < 4
    · exact (h.up n hn q).1
    · exact (h.neat.far n (by omega)).1

set_option maxRecDepth 100000 in
set_option maxHeartbeats 8000000 in
theorem helpedLaw_any (w : World) (ra : Option Addr) (rn rc : Nat) (hrn : rn ≤ maxLen) (_hrc : rn ≤ rc) (hra : StepsAt w ra rn) (wh : Int) (hwh : inI wh) :
    Calls Tryz.prog 10 #[.slice ra rn rc, .int .i64 wh] w fun e w' => e = .returned (.bool true) ∧ Below w.heap.size w w' := by
  unfold maxLen at hrn
  have hbg := hide (troubled_any w)
  obtain ⟨pr0, pr1⟩ := pickI_range wh 3 (by omega)
  have HPK : Hid (∀ w' : World, _) := hide (fun w' => pick_any wh 3 w' (by omega) (by omega) hwh.1 hwh.2)
  obtain ⟨P, hP⟩ : ∃ P : Nat, pickI wh 3 = (P : Int) := ⟨(pickI wh 3).toNat, by omega⟩
  rw [hP] at pr0 pr1 HPK
  have hP3 : P < 3 := by omega
  clear pr0 pr1 hP hwh
  go_enter Tryz.func10, Tryz.ntmps10
  go_wp2_with fail
  refine (unhide hbg).mono ?_
  rintro e w1 ⟨rfl, hb1⟩
  clear hbg
  have hfr := hide (run_fresh w1)
  go_wp2_with fail
  refine (unhide hfr).mono ?_
  rintro e w2 ⟨rb, wb, rfl, hK⟩
  have hK0 := Kt.lift hb1 hK
  clear hfr hK hb1
  go_wp2_with fail
  go_loopw [7] (fun i wr => ∃ (j : Nat) (s : St), j ≤ rn ∧ j ≤ 70 ∧ i = .int .i64 (j : Int) ∧ Kt (fun _ => none) w rb wb wr s ∧ Hid (Neat s)) (fun i _ => 70 - (intOf i).toNat)
  case atStart => exact ⟨0, St.new 3, by omega, by omega, rfl, hK0, Neat.new 3⟩
  case round =>
    clear hK0
    obtain ⟨j, s, hj, hj70, rfl, hK, hN⟩ := hrel
    by_cases hgo : j < rn ∧ j < 70
    · obtain ⟨hj1, hj2⟩ := hgo
      obtain ⟨g, o, K, A, B, C, rfl, m0, m1, m2, m3, iK, iA, iB, iC⟩ := hra.get hK j hj1
      have hst := hide (step_any hK K A B C iK iA iB iC)
      go_wp2_with fail
      refine (unhide hst).mono ?_
      rintro e w3 ⟨rfl, hK3⟩
      have hN3 := hide ((unhide hN).step hK.ok.1 K A B C)
      go_wp2
      exact ⟨⟨j + 1, _, by omega, by omega, by go_num, hK3, hN3⟩, by simp [intOf]; omega⟩
    · have hex : (j < rn ∧ ¬ (j : Int) < 70) ∨ ¬ j < rn := by omega
      clear hgo
      rcases hex with ⟨hjr, hj7⟩ | hjr
      all_goals
        go_wp2_with fail
        go_loopw [9] (fun i wr => ∃ (d : Nat) (sd : St), i = .int .i64 (d : Int) ∧ Kt (fun _ => none) w rb wb wr sd ∧ Hid (Neat sd) ∧ sd.fly.length + d ≤ 60) (fun i _ => 1000 - (intOf i).toNat)
        case atStart => exact ⟨0, s, rfl, hK, hN, by have := hK.ok.1.inv.fl; omega⟩
        case round =>
          clear hK hN
          obtain ⟨d, sd, rfl, hKd, hNd, hd60⟩ := hrel
          have r0 := hKd.cells.1
          have hfl := hide (flying_kt hKd)
          have hd : (d : Int) < 1000 := by omega
          go_wp2_with fail
          refine (unhide hfl).mono ?_
          rintro e w3 ⟨fa, fc, rfl, hK3⟩
          clear hfl r0 hKd
          have r3 := hK3.cells.1
          by_cases h0 : 0 < sd.fly.length
          · have q : (0 : Int) < (sd.fly.length : Int) := by omega
            have hdr := hide (drop_kt hK3 0)
            have hlen : (sd.dropP 0).1.fly.length + 1 = sd.fly.length := by
              unfold St.dropP; rw [if_pos (by omega)]
              simp only [St.drop]
              rw [List.length_eraseIdx]
              rw [if_pos (show Int.toNat 0 < sd.fly.length from h0)]; omega
            have hN4 := hide ((unhide hNd).dropP 0)
            clear h0
            go_wp2_with fail
            refine (unhide hdr).mono ?_
            rintro e w4 ⟨rfl, hK4⟩
            go_wp2
            exact ⟨⟨d + 1, _, by go_num, hK4, hN4, by omega⟩, by simp [intOf]; omega⟩
          · have h00 : sd.fly.length = 0 := by omega
            have hren : RenH sd 0 := ⟨unhide hNd, List.eq_nil_of_length_eq_zero (by omega), fun i h1 h2 => by omega, fun hh => by omega⟩
            have HREN := hide hren
            rw [h00]
            clear hNd hren h0 h00
            go_wp2_with fail
            go_loopw [10] (fun i wr => ∃ (n : Nat) (s : St), n ≤ 4 ∧ i = .int .i64 (n : Int) ∧ Kt (fun _ => none) w rb wb wr s ∧ Hid (RenH s n)) (fun i _ => 4 - (intOf i).toNat)
            case atStart => exact ⟨0, sd, by omega, rfl, hK3, HREN⟩
            case round =>
              clear hK3 HREN r3
              obtain ⟨n, sn, hn4, rfl, hKn, hRn⟩ := hrel
              have r0 := hKn.cells.1
              by_cases hn : n < 4
              · have hni : (n : Int) ≤ 3 := by omega
                have hp3 := hKn.ok.2
                have hin : (0 : Int) ≤ (n : Int) ∧ (n : Int) ≤ sn.parts := by rw [hp3]; omega
                have hup := up_kt hKn (n : Int)
                have hu0 : sn.upP n = (sn.up n, 0) := by unfold St.upP; rw [if_pos hin]; simp
                rw [hu0] at hup
                cases hu : sn.up n with
                | true =>
                  rw [hu] at hup
                  have HUP := hide hup
                  have hE : sn.nodeE n true = 0 := by unfold St.nodeE; rw [if_pos hin]; simp [hu]
                  have hc0 : sn.crashP n = (sn.down n, 0) := by unfold St.crashP; rw [if_pos hE]; simp
                  have HC := hide hc0
                  by_cases hz : n = 0
                  · have hR2 := hide ((hz ▸ unhide hRn : RenH sn 0).first.1 (hz ▸ hu))
                    have hdz : sn.down n = sn.down 0 := by rw [hz]
                    rw [hdz] at HC
                    have hnz : ¬ (0 : Int) < (n : Int) := by omega
                    have HZ := hide hz
                    clear hup hu0 hu hE hc0 hin hp3 hz hdz
                    go_wp2_with fail
                    refine (unhide HUP).mono ?_
                    rintro e w5 ⟨rfl, hK5⟩
                    have r5 := hK5.cells.1
                    have hcr := crash_kt hK5 (n : Int)
                    rw [unhide HC] at hcr
                    have HCR := hide hcr
                    clear hcr
                    go_wp2_with fail
                    refine (unhide HCR).mono ?_
                    rintro e w6 ⟨rfl, hK6⟩
                    go_wp2
                    exact ⟨⟨n + 1, _, by omega, by go_num, hK6, by rw [unhide HZ]; exact hR2⟩, by simp [intOf]; omega⟩
                  · have hR2 := hide ((unhide hRn).part hKn.ok.1 (by omega) hz)
                    have hE2 : (sn.down n).nodeE n false = 0 := by unfold St.nodeE; rw [if_pos (show (0:Int) ≤ n ∧ (n:Int) ≤ (sn.down n).parts from hin)]; simp [St.down]
                    have hr0 : (sn.down n).recoverP n = (sn.renew n, 0) := by unfold St.recoverP; rw [if_pos hE2]; unfold St.renew; rw [hu]; simp
                    have HRR := hide hr0
                    have hnz : (0 : Int) < (n : Int) := by omega
                    clear hup hu0 hu hE hc0 hE2 hr0 hin hp3 hz
                    go_wp2_with fail
                    refine (unhide HUP).mono ?_
                    rintro e w5 ⟨rfl, hK5⟩
                    have r5 := hK5.cells.1
                    have hcr := crash_kt hK5 (n : Int)
                    rw [unhide HC] at hcr
                    have HCR := hide hcr
                    clear hcr
                    go_wp2_with fail
                    refine (unhide HCR).mono ?_
                    rintro e w6 ⟨rfl, hK6⟩
                    have r6 := hK6.cells.1
                    have hre := recover_kt hK6 (n : Int)
                    rw [unhide HRR] at hre
                    have HRE := hide hre
                    clear hre
                    go_wp2_with fail
                    refine (unhide HRE).mono ?_
                    rintro e w7 ⟨rfl, hK7⟩
                    go_wp2
                    exact ⟨⟨n + 1, _, by omega, by go_num, hK7, hR2⟩, by simp [intOf]; omega⟩
                | false =>
                  rw [hu] at hup
                  have HUP := hide hup
                  by_cases hz : n = 0
                  · have hR2 := hide ((hz ▸ unhide hRn : RenH sn 0).first.2 (hz ▸ hu))
                    have hnz : ¬ (0 : Int) < (n : Int) := by omega
                    have HZ := hide hz
                    clear hup hu0 hu hin hp3 hz
                    go_wp2_with fail
                    refine (unhide HUP).mono ?_
                    rintro e w5 ⟨rfl, hK5⟩
                    go_wp2
                    exact ⟨⟨n + 1, _, by omega, by go_num, hK5, by rw [unhide HZ]; exact hR2⟩, by simp [intOf]; omega⟩
                  · have hR2 := hide ((unhide hRn).part hKn.ok.1 (by omega) hz)
                    have hE2 : sn.nodeE n false = 0 := by unfold St.nodeE; rw [if_pos hin]; simp [hu]
                    have hr0 : sn.recoverP n = (sn.renew n, 0) := by unfold St.recoverP; rw [if_pos hE2]; unfold St.renew; rw [hu]; simp
                    have HRR := hide hr0
                    have hnz : (0 : Int) < (n : Int) := by omega
                    clear hup hu0 hu hE2 hr0 hin hp3 hz
                    go_wp2_with fail
                    refine (unhide HUP).mono ?_
                    rintro e w5 ⟨rfl, hK5⟩
                    have r5 := hK5.cells.1
                    have hre := recover_kt hK5 (n : Int)
                    rw [unhide HRR] at hre
                    have HRE := hide hre
                    clear hre
                    go_wp2_with fail
                    refine (unhide HRE).mono ?_
                    rintro e w7 ⟨rfl, hK7⟩
                    go_wp2
                    exact ⟨⟨n + 1, _, by omega, by go_num, hK7, hR2⟩, by simp [intOf]; omega⟩
              · have hni : ¬ (n : Int) ≤ 3 := by omega
                have hn4' : n = 4 := by omega
                subst hn4'
                have HREN := hide ((unhide hRn).all hKn.ok.2)
                have HFL := hide (unhide hRn).fl
                have HOK := hide hKn.ok
                have h12 := hKn.ok.1.inv.d12
                clear hn hRn
                go_wp2_with fail
                refine (unhide HPK _).mono ?_
                rintro e w5 ⟨rfl, rfl⟩
                have hL := Kt.withNil hKn
                clear HPK
                go_wp2_with fail
                go_loopw [14, 15] (fun kn i wr => ∃ (j : Nat) (l : List Nat), j ≤ sn.deals.length ∧ i = .int .i64 ((j : Int) + 1) ∧ l.length ≤ 3 * j ∧ Kl w rb wb wr sn kn l ∧ Hid (∀ t, t ∈ l → 1 ≤ t ∧ t ≤ sn.deals.length ∧ Knows (P + 1) sn t)) (fun _ i _ => (13 - intOf i).toNat)
                case atStart => exact ⟨0, [], Nat.zero_le _, rfl, by simp, hL, fun t ht => by simp at ht⟩
                case round =>
                  clear hL hKn r0
                  obtain ⟨t0, l0, ht0, rfl, hl0, hL0, hX0⟩ := hrel
                  obtain ⟨r0, a1, c1, r1⟩ := hL0.kt.cells
                  by_cases hlt : t0 < sn.deals.length
                  · have HJ := hide hlt
                    clear hlt
                    have hjl : (t0 : Int) + 1 ≤ (sn.deals.length : Int) := by have := unhide HJ; omega
                    go_wp2_with fail
                    go_loopw [14, 16] (fun kn i wr => ∃ (q : Nat) (l : List Nat), 1 ≤ q ∧ q ≤ 4 ∧ i = .int .i64 (q : Int) ∧ l.length + 1 ≤ 3 * t0 + q ∧ Kl w rb wb wr sn kn l ∧ Hid (∀ t, t ∈ l → 1 ≤ t ∧ t ≤ sn.deals.length ∧ Knows (P + 1) sn t)) (fun _ i _ => (4 - intOf i).toNat)
                    case atStart => exact ⟨1, l0, by omega, by omega, rfl, by omega, hL0, hX0⟩
                    case round =>
                      clear hL0 hX0 r0 r1
                      obtain ⟨q, l, hq1, hq4, rfl, hl, hL, hX⟩ := hrel
                      by_cases hq : q < 4
                      · have hqi : (q : Int) ≤ 3 := by omega
                        obtain ⟨ow, hKw, hback⟩ := hL.use
                        have HB := hide hback
                        clear hback
                        obtain ⟨g3, c3, a3, n3, cap3, rt3, hcc, rg3, hn3, hw3⟩ := hKw.tran t0 (unhide HJ)
                        have hw6 : (sn.deals.getD t0 []).length ≤ 6 := (unhide HOK).1.inv.wf.w6 t0
                        have r0w := hKw.cells.1
                        have hst := state_kt hKw (q : Int) ((t0 + 1 : Nat) : Int)
                        have hp3 := (unhide HOK).2
                        have hs0 : sn.stateP q ((t0 + 1 : Nat) : Int) = (sn.state q (t0 + 1), 0) := by unfold St.stateP; rw [if_pos (by have := unhide HJ; omega)]; simp
                        rw [hs0] at hst
                        have HST := hide hst
                        clear hst hs0 hp3
                        have hkn : hasPart (sn.deals.getD t0 []) q = true → q ≠ P + 1 → sn.state q (t0 + 1) ≠ 2 → Knows (P + 1) sn (t0 + 1) := fun x1 x2 x3 => ⟨q, (membersTo_mem _ _ _).2 ⟨hq1, by omega, x1⟩, x2, x3⟩
                        have HKN := hide hkn
                        clear hkn
                        generalize sn.deals.getD t0 [] = ws at *
                        subst hn3
                        have HMB := hide (member_any a3 ws.length cap3 ws (q : Int) wr rfl (by omega) hw3)
                        clear hw3 hw6
                        go_wp2_with fail
                        refine (unhide HMB).mono ?_
                        rintro e w6 ⟨rfl, rfl⟩
                        clear HMB rt3 rg3
                        go_wp2_with fail
                        rw [show ((t0 : Int) + 1) = ((t0 + 1 : Nat) : Int) from by omega]
                        refine (unhide HST).mono ?_
                        rintro e w7 ⟨rfl, hK7⟩
                        have hL7 := unhide HB _ _ hK7
                        clear HST HB hKw hK7 hL
                        cases hb : hasPart ws q with
                        | false =>
                          clear hb HKN
                          go_wp2
                          exact ⟨⟨q + 1, l, by omega, by omega, by go_num, by omega, hL7, hX⟩, by simp [intOf]; omega⟩
                        | true =>
                          by_cases hqp : q = P + 1
                          · have f1 : ((q : Int) != 1 + (P : Int)) = false := by rw [hqp]; simp; omega
                            clear hb HKN hqp
                            go_wp2
                            exact ⟨⟨q + 1, l, by omega, by omega, by go_num, by omega, hL7, hX⟩, by simp [intOf]; omega⟩
                          · have f1 : ((q : Int) != 1 + (P : Int)) = true := by rw [bne_iff_ne]; omega
                            by_cases h2 : sn.state q (t0 + 1) = 2
                            · have f2 : ((sn.state q (t0 + 1) : Int) != 2) = false := by rw [h2]; rfl
                              clear hb HKN hqp h2
                              go_wp2
                              exact ⟨⟨q + 1, l, by omega, by omega, by go_num, by omega, hL7, hX⟩, by simp [intOf]; omega⟩
                            · have f2 : ((sn.state q (t0 + 1) : Int) != 2) = true := by rw [bne_iff_ne]; omega
                              have hX2 : ∀ t, t ∈ l ++ [t0 + 1] → 1 ≤ t ∧ t ≤ sn.deals.length ∧ Knows (P + 1) sn t := by
                                intro t ht
                                rcases List.mem_append.1 ht with ht | ht
                                · exact unhide hX t ht
                                · simp only [List.mem_singleton] at ht
                                  subst ht
                                  exact ⟨by omega, by have := unhide HJ; omega, unhide HKN hb hqp h2⟩
                              have HX2 := hide hX2
                              obtain ⟨ka, kc, rfl, hrow⟩ := hL7.row
                              obtain ⟨i0, hi0, hz0, hz1, hz2⟩ := info_parts Tryz.infoInt
                              clear hb HKN hqp h2 hX2 hX
                              go_wp2_with (at_builtin; refine wpList_append_one rfl _ _ 56 rfl 3 i0 (.int .i64 0) 1 8 Tryz.underlying56 hi0 hz0 hz1 hz2 rfl (by decide) ka l.length kc (natCells l) rfl (World.ownsRow.alloc hrow _) ⟨w7.heap.size, 0, none⟩ 1 [.int .i64 ((t0 : Int) + 1)] rfl rfl (new_cells _ _ _) (fun x hx => by simp at hx; subst hx; rfl) (by unfold maxLen; omega) (by omega) ?_; intro k' cap' w8 g1 g2 g3)
                              have hL8 := hL7.grow (t := t0 + 1) (below_alloc _ _) (by simpa using g1) g2 g3
                              exact ⟨⟨q + 1, l ++ [t0 + 1], by omega, by omega, by go_num, by simp; omega, by simpa using hL8, HX2⟩, by simp [intOf]; omega⟩
                      · have hqi : ¬ (q : Int) ≤ 3 := by omega
                        clear hq
                        have := unhide HJ
                        go_wp2
                        exact ⟨⟨t0 + 1, l, by omega, by go_num, by omega, hL, hX⟩, by simp [intOf]; omega⟩
                  · have hjl : ¬ (t0 : Int) + 1 ≤ (sn.deals.length : Int) := by omega
                    clear hlt
                    obtain ⟨ka, kc, rfl, hrow⟩ := hL0.row
                    obtain ⟨ow, hKw, hback⟩ := hL0.use
                    have HB := hide hback
                    have r0w := hKw.cells.1
                    clear hback hrow
                    have hp3 := (unhide HOK).2
                    have hE : sn.nodeE (1 + (P : Int)) true = 0 := by
                      unfold St.nodeE; rw [if_pos (by rw [hp3]; omega)]
                      rw [show (1 + (P : Int)).toNat = P + 1 from by omega, (unhide HREN).2 (P + 1) (by omega)]; rfl
                    have htk := tick_kt hKw (1 + (P : Int))
                    have ht1 : sn.tickP (1 + (P : Int)) = ((sn.tick (P + 1)).1, 0) := by unfold St.tickP; rw [if_pos hE, show (1 + (P : Int)).toNat = P + 1 from by omega]
                    rw [ht1] at htk
                    have HTK := hide htk
                    have HPD := hide (Pd.begin (p := P + 1) (unhide HOK).1 hp3 (unhide HREN).1 (unhide HREN).2 (unhide HFL) (by omega))
                    have HDL := hide (tick_deals sn (P + 1)).1
                    clear hE htk ht1 hp3
                    go_wp2_with fail
                    refine (unhide HTK).mono ?_
                    rintro e w6 ⟨rfl, hK6⟩
                    clear HTK
                    have hcm := hide (comes_any (Pd (P + 1) (Knows (P + 1) sn) (fun t => sn.state (P + 1) t ≠ 2)) (fun s a b c d => Pd.step a b c d) hK6 (unhide HPD).1 (unhide HPD).2)
                    clear HPD
                    go_wp2_with fail
                    refine (unhide hcm).mono ?_
                    rintro e w7 ⟨s7, rfl, hK7, q1, q2, q3, q4⟩
                    have hgood : ∀ t, t ∈ l0 → 1 ≤ t ∧ t ≤ s7.deals.length ∧ s7.state (P + 1) t ≠ 2 := by
                      intro t ht
                      obtain ⟨x1, x2, x3⟩ := unhide hX0 t ht
                      refine ⟨x1, ?_, Pd.finish q2 q3 t x3⟩
                      rw [q4, unhide HDL]; exact x2
                    have HG := hide hgood
                    have hL7 := unhide HB _ _ hK7
                    clear q1 q2 q3 q4 hcm hgood HB hX0 HDL hK7 hK6 hKw hL0 r0 r1
                    go_wp2_with fail
                    go_loopw [22] (fun i wr => ∃ c : Nat, c ≤ l0.length ∧ i = .int .i64 (c : Int) ∧ Kl w rb wb wr s7 (.slice ka l0.length kc) l0) (fun i _ => (100 - intOf i).toNat)
                    case atStart => exact ⟨0, Nat.zero_le _, rfl, hL7⟩
                    case round =>
                      clear hL7
                      obtain ⟨c, hc, rfl, hLc⟩ := hrel
                      by_cases hcl : c < l0.length
                      · have hci : (c : Int) < (l0.length : Int) := by omega
                        have hget : l0[c]? = some l0[c] := List.getElem?_eq_getElem _
                        obtain ⟨x1, x2, x3⟩ := unhide HG _ (List.getElem_mem hcl)
                        generalize l0[c] = tt at hget x1 x2 x3
                        have h36 : l0.length ≤ 36 := by omega
                        obtain ⟨g, rfl, hcap, hcell⟩ := hLc.get c tt hget
                        obtain ⟨oc, hKc, hback⟩ := hLc.use
                        have HB := hide hback
                        have r0c := hKc.cells.1
                        have hp3 := hKc.ok.2
                        have hst := state_kt hKc.drew (1 + (P : Int)) (tt : Int)
                        have hs0 : s7.stateP (1 + (P : Int)) (tt : Int) = (s7.state (P + 1) tt, 0) := by
                          unfold St.stateP; rw [if_pos (by omega)]
                          rw [show (1 + (P : Int)).toNat = P + 1 from by omega]; rfl
                        rw [hs0] at hst
                        have HST := hide hst
                        have f2 : ((s7.state (P + 1) tt : Int) == 2) = false := by rw [beq_eq_false_iff_ne]; omega
                        have hkeep : ∀ w2, Kl w rb wb w2 s7 (.slice (some ⟨g, 0, none⟩) l0.length kc) l0 → w2.cell? ⟨g, c, none⟩ = some (.int .i64 (tt : Int)) := by
                          intro w2 h
                          obtain ⟨g', e, _, hh⟩ := h.get c tt hget
                          simp only [Option.some.injEq, Addr.mk.injEq, and_true] at e
                          rw [e]; exact hh
                        have HKP := hide hkeep
                        clear hst hs0 hp3 hback hget x1 x2 x3 hkeep
                        go_wp2_with fail
                        go_region_held3 (fun w' => w'.cell? ⟨rb, 0, none⟩ = some (.pointer (some ⟨wb, 0, none⟩)) ∧ w'.cell? ⟨g, c, none⟩ = some (.int .i64 (tt : Int))) (go_keep)
                          (first
                            | (go_at_call 20; refine (unhide HST).mono ?_; rintro e w8 ⟨rfl, hK8⟩; have r08 := hK8.cells.1; have b8 := unhide HKP _ (unhide HB _ _ hK8)))
                        have hL8 := unhide HB _ _ hK8
                        clear HST HB HKP
                        go_wp2
                        exact ⟨⟨c + 1, by omega, by go_num, hL8⟩, by simp [intOf]; omega⟩
                      · have hci : ¬ (c : Int) < (l0.length : Int) := by omega
                        clear hcl
                        have hgr := hide (agreed_any hLc.kt)
                        go_wp2_with fail
                        refine (unhide hgr).mono ?_
                        rintro e w13 ⟨rfl, hK13⟩
                        go_wp2
                        go_ret
                        exact ⟨rfl, hK13.blw⟩
end Go.Proofs.YtekbjlhbjcikdaaGreat
