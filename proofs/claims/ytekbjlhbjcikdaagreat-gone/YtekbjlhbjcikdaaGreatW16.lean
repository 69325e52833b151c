/-
  Walks of giveUpAll, askAround, Tick, Recover, Fuse.
-/
import Derived.Test.YtekbjlhbjcikdaaGreatW15
namespace Go.Proofs.YtekbjlhbjcikdaaGreat
open Go.RowKit Acc

theorem giveFrom_step (s : St) (n t : Nat) : s.giveFrom (n + 1) t = andThen (if s.state 0 t = 1 then s.does 0 (s.all t 4 5) else (s, true)) fun s' => s'.giveFrom n (t + 1) := rfl
theorem askFrom_step (s : St) (p n t : Nat) : s.askFrom p (n + 1) t = andThen (if s.state p t = 2 then s.does p (s.asks p t) else (s, true)) fun s' => s'.askFrom p n (t + 1) := rfl
theorem andThen_true {r : St × Bool} {f : St → St × Bool} (h : r.2 = true) : andThen r f = f r.1 := by unfold andThen; rw [if_pos h]
theorem andThen_false {r : St × Bool} {f : St → St × Bool} (h : r.2 = false) : andThen r f = (r.1, false) := by unfold andThen; rw [if_neg (by simp [h])]; rw [← h]

set_option maxRecDepth 100000 in
set_option maxHeartbeats 1000000 in
theorem nodesGiveUpAll_any {w : World} {L : Lay} {s : St} (h : Rep w L s) (hk : Ok s) :
    Calls Tryz.prog 87 #[.pointer (some ⟨L.nb, 0, none⟩)] w (Acts L w 0 s.giveAll) := by
  have h12 := hk.inv.d12
  go_enter Tryz.func87, Tryz.ntmps87
  go_wp2
  go_loopw [2] (fun i wr => ∃ j : Nat, j ≤ s.deals.length ∧ i = .int .i64 ((j : Int) + 1) ∧ ∃ sj, Hid (s.giveAll = sj.giveFrom (s.deals.length - j) (j + 1)) ∧ Ok sj ∧ Hid (sj.deals = s.deals) ∧ Leaves L w sj wr) (fun i _ => (13 - intOf i).toNat)
  case atStart => exact ⟨0, Nat.zero_le _, rfl, s, hide rfl, hk, hide rfl, Leaves.same h (Below.refl _ _)⟩
  case round =>
    obtain ⟨j, hj, rfl, sj, hg, hkj, hdj, L1, e1, e2, hR, hE⟩ := hrel
    have c1 := hR.c1
    rw [e2] at c1
    have HD := hide (by have := hR.od.len; rw [slCells_length] at this; rw [← unhide hdj]; omega : L1.dv.n = s.deals.length)
    have hdn : L1.dv.n ≤ 12 := by rw [unhide HD]; exact h12
    by_cases hlt : j < s.deals.length
    · have hlt' : j < L1.dv.n := by rw [unhide HD]; exact hlt
      have hst : s.giveAll = andThen (if sj.state 0 (j + 1) = 1 then sj.does 0 (sj.all (j + 1) 4 5) else (sj, true)) fun s' => s'.giveFrom (s.deals.length - (j + 1)) (j + 1 + 1) := by
        rw [unhide hg, show s.deals.length - j = (s.deals.length - (j + 1)) + 1 from by omega]; rfl
      have HS := hide hst
      have hsa := nodesState_any hR 0 (j + 1) (Nat.zero_le _) hkj.inv.p5 (hkj.inv.wf.ll 0 (Nat.zero_le _))
      rw [e2] at hsa
      have HSA := hide hsa
      have hgu := nodesGiveUp_any hR hkj.inv.wf hkj.inv.sm (j + 1) (by omega) (by rw [unhide hdj]; omega)
      rw [e2] at hgu
      have HGU := hide hgu
      have E := hide (And.intro e1 e2)
      have HLT := hide hlt
      clear hst hsa hgu e1 e2 hg hlt hj
      go_wp2_with fail
      rw [show ((j : Int) + 1) = ((j + 1 : Nat) : Int) from by omega]
      refine (unhide HSA).mono ?_
      rintro e w1 ⟨rfl, rfl⟩
      by_cases h1 : sj.state 0 (j + 1) = 1
      · have q1 := eqT h1
        have HQ := hide h1
        clear h1
        go_wp2_with fail
        rw [show ((j : Int) + 1) = ((j + 1 : Nat) : Int) from by omega]
        refine (unhide HGU).mono ?_
        intro e w3 ha
        have hko : Ok (sj.does 0 (sj.all (j + 1) 4 5)).1 := hkj.of (hkj.inv.aborted (j + 1) ((hkj.inv.h1).1 (unhide HQ)).2) (does_deals _ _ _).1
        have hdd : (sj.does 0 (sj.all (j + 1) 4 5)).1.deals = s.deals := (does_deals _ _ _).1.trans (unhide hdj)
        have hs2 := unhide HS
        rw [if_pos (unhide HQ)] at hs2
        rcases ha.cases with ⟨hr, rfl, hl⟩ | ⟨hr, rfl, hl⟩
        · rw [andThen_true (unhide hr)] at hs2
          have HS2 := hide hs2
          have HDD := hide hdd
          clear hs2 hdd
          go_wp2
          have := unhide HLT
          exact ⟨⟨j + 1, by omega, by go_num, _, HS2, hko, HDD, Leaves.trans (unhide E).1 (unhide E).2 hE hl⟩, by simp [intOf]; omega⟩
        · rw [andThen_false (unhide hr)] at hs2
          have HS2 := hide hs2
          clear hs2 hdd
          go_wp2
          exact ⟨rfl, Acts.pan' (unhide HS2) (Leaves.trans (unhide E).1 (unhide E).2 hE hl)⟩
      · have q1 := eqF h1
        have hs2 := unhide HS
        rw [if_neg h1, andThen_true rfl] at hs2
        have HS2 := hide hs2
        clear h1 hs2
        go_wp2
        have := unhide HLT
        exact ⟨⟨j + 1, by omega, by go_num, sj, HS2, hkj, hdj, L1, (unhide E).1, (unhide E).2, hR, hE⟩, by simp [intOf]; omega⟩
    · have hlt' : ¬ j < L1.dv.n := by rw [unhide HD]; exact hlt
      have hfin : s.giveAll = (sj, true) := by rw [unhide hg, show s.deals.length - j = 0 from by omega]; rfl
      have HF := hide hfin
      have hl : Leaves L w sj wr := ⟨L1, e1, e2, hR, hE⟩
      clear hfin e1 e2 hg
      go_wp2
      go_end0
      exact Acts.ret' (unhide HF) hl

theorem does_more_true {s sj s' : St} {n : Nat} {l : List Deed} {a : Deed} (h : s.does n l = (sj, true)) (h2 : sj.does n [a] = (s', true)) : s.does n (l ++ [a]) = (s', true) := by
  rw [does_append, h]; exact h2
theorem does_more_false {s sj s' : St} {n : Nat} {l r : List Deed} {a : Deed} (h : s.does n l = (sj, true)) (h2 : sj.does n [a] = (s', false)) : s.does n (l ++ a :: r) = (s', false) := by
  rw [does_append, h]
  simp only [if_true]
  have := does_stop (a := a) (s := sj) (n := n) r (by rw [h2])
  rw [this, h2]
def askL (p t : Nat) (l : List Nat) : List Deed := (l.filter fun m => m != p).map fun m => .snd ⟨6, p, m, t⟩
theorem askL_take_ne (p t : Nat) (l : List Nat) (j x : Nat) (h : l[j]? = some x) (hx : ¬ x = p) : askL p t (l.take (j + 1)) = askL p t (l.take j) ++ [.snd ⟨6, p, x, t⟩] := by
  unfold askL
  rw [List.take_add_one, h, List.filter_append, List.map_append]
  simp [hx]
theorem askL_take_eq (p t : Nat) (l : List Nat) (j x : Nat) (h : l[j]? = some x) (hx : x = p) : askL p t (l.take (j + 1)) = askL p t (l.take j) := by
  unfold askL
  rw [List.take_add_one, h, List.filter_append, List.map_append]
  simp [hx]
theorem askL_cut (p t : Nat) (l : List Nat) (j x : Nat) (h : l[j]? = some x) (hx : ¬ x = p) : askL p t l = askL p t (l.take j) ++ .snd ⟨6, p, x, t⟩ :: askL p t (l.drop (j + 1)) := by
  have e : l = l.take j ++ (x :: l.drop (j + 1)) := by
    have := List.take_append_drop j l
    rw [List.drop_eq_getElem?_toList_append, h] at this
    exact this.symm
  conv => lhs; rw [e]
  unfold askL
  rw [List.filter_append, List.map_append, List.filter_cons_of_pos (by simpa using hx), List.map_cons]

set_option maxRecDepth 100000 in
set_option maxHeartbeats 1000000 in
theorem nodesAskAround_any {w : World} {L : Lay} {s : St} (h : Rep w L s) (hf : Wf s) (p t : Nat) (hp : p ≤ s.parts) (ht : 1 ≤ t) (ht' : t ≤ s.deals.length) :
    Calls Tryz.prog 88 #[.pointer (some ⟨L.nb, 0, none⟩), .int .i64 p, .int .i64 t] w (Acts L w p (s.does p (s.asks p t))) := by
  have hwr := hide (nodesSend_any h hf 6 p 0 t hp)
  go_enter Tryz.func88, Tryz.ntmps88
  go_wp2_with fail
  refine (unhide hwr).mono ?_
  intro e w0 ha
  rcases ha.cases with ⟨hr, rfl, hl⟩ | ⟨hr, rfl, hl⟩
  · have hnx := does_next (askL p t (members (s.deal t))) (unhide hr)
    rw [hnx.1] at hl
    have hall : s.does p (s.asks p t) = ((s.burn p).send ⟨6, p, 0, t⟩).does p (askL p t (members (s.deal t))) := hnx.2
    have hs1 : ((s.burn p).send ⟨6, p, 0, t⟩).deal t = s.deal t := rfl
    have hd1 : ((s.burn p).send ⟨6, p, 0, t⟩).deals = s.deals := rfl
    have hpp : ((s.burn p).send ⟨6, p, 0, t⟩).parts = s.parts := rfl
    have hf1 : Wf ((s.burn p).send ⟨6, p, 0, t⟩) := (hf.burn p).send _
    obtain ⟨L1, e1, e2, hR1, hE1⟩ := (show Leaves L w ((s.burn p).send ⟨6, p, 0, t⟩) w0 from hl)
    rw [← hs1] at hall
    rw [← hd1] at ht'
    rw [← hpp] at hp
    generalize (s.burn p).send ⟨6, p, 0, t⟩ = s1 at *
    have HALL := hide hall
    clear hl ha hwr hall hs1 hd1 hpp hnx hr h hf
    have hde := nodesDeal_any hR1 t ht ht' hf1.d12
    rw [e2] at hde
    have HDE := hide hde
    have E := hide (And.intro e1 e2)
    clear hde e1 e2
    go_wp2_with fail
    refine (unhide HDE).mono ?_
    rintro e w1 ⟨rfl, hb1⟩
    obtain ⟨hn1, hw1⟩ := (hR1.below hb1).deal t ht ht'
    have hw6 := hf1.deal t
    have HN1 := hide hn1
    clear hn1
    go_wp2_with fail
    refine (members_any _ _ _ (s1.deal t) _ (unhide HN1).symm (by rw [unhide HN1]; omega) hw1).mono ?_
    rintro e w2 ⟨sa, sc, rfl, hb2, hown⟩
    have hm5 := membersTo_len (s1.deal t) 5
    have hmm : membersTo (s1.deal t) 5 = members (s1.deal t) := rfl
    rw [hmm] at hm5
    clear hmm hw6
    have hb3 := hb1.more hb2
    generalize members (s1.deal t) = ms at *
    have hfree : ∀ k, (Value.slice sa ms.length sc).ownBlock = some k → L1.own k = none := by
      intro k hk
      have := hown.lt k hk
      cases ho : L1.own k with
      | none => rfl
      | some u => have := hR1.lt k u ho; have := hb1.size; omega
    have HF := hide hfree
    clear hfree
    go_wp2_with fail
    go_loopw [17] (fun i wr => ∃ j : Nat, j ≤ ms.length ∧ i = .int .i64 j ∧ ∃ sj, Hid (s1.does p (askL p t (ms.take j)) = (sj, true)) ∧ Wf sj ∧ Hid (sj.parts = s1.parts) ∧ Leaves L1 w2 sj wr) (fun i _ => ms.length - (intOf i).toNat)
    case atStart => exact ⟨0, by omega, rfl, s1, hide rfl, hf1, hide rfl, L1, rfl, rfl, hR1.below hb3, Ext.refl _ _⟩
    case round =>
      obtain ⟨j, hj, rfl, sj, hdo, hfj, hpj, L2, e3, e4, hR, hE⟩ := hrel
      by_cases hlt : j < ms.length
      · have hx : ms[j]? = some ms[j] := List.getElem?_eq_getElem _
        generalize ms[j] = x at hx
        have HX := hide hx
        have ho2 := Owns.of_row (ownsRow_mono (ownsRow_ext hown hE (unhide HF)) (Nat.zero_le _))
        obtain ⟨g, ha, hcap, _, hc⟩ := ho2.at (by simp; omega)
        simp only at ha hcap
        subst ha
        have c0 := hc j (.int .i64 x) (by simp [natCells, hx])
        have hs := nodesSend_any hR hfj 6 p x t (by rw [unhide hpj]; exact hp)
        rw [e4, (unhide E).2] at hs
        have HS := hide hs
        have E2 := hide (And.intro e3 e4)
        clear hs e3 e4 hc ho2 hx hown HF
        by_cases hxp : x = p
        · have q := neF hxp
          have HT := hide (askL_take_eq p t ms j x (unhide HX) hxp)
          clear hxp
          go_wp2
          refine ⟨⟨j + 1, by omega, by go_num, sj, ?_, hfj, hpj, L2, (unhide E2).1, (unhide E2).2, hR, hE⟩, by simp [intOf]; omega⟩
          show _ = _
          rw [unhide HT]; exact unhide hdo
        · have q := neT hxp
          have HT := hide (And.intro (askL_take_ne p t ms j x (unhide HX) hxp) (askL_cut p t ms j x (unhide HX) hxp))
          clear hxp
          go_wp2_with fail
          refine (unhide HS).mono ?_
          intro e w5 ha
          rcases ha.cases with ⟨hr, rfl, hl⟩ | ⟨hr, rfl, hl⟩
          · have hd2 := does_next (a := .snd ⟨6, p, x, t⟩) [] (unhide hr)
            rw [hd2.1] at hl
            have HD2 := hide hd2.2
            clear hd2
            go_wp2
            refine ⟨⟨j + 1, by omega, by go_num, (sj.burn p).send ⟨6, p, x, t⟩, ?_, (hfj.burn p).send _, hpj, Leaves.trans (unhide E2).1 (unhide E2).2 hE hl⟩, by simp [intOf]; omega⟩
            show _ = _
            rw [(unhide HT).1]
            exact does_more_true (unhide hdo) (unhide HD2)
          · have hfin := does_more_false (r := askL p t (ms.drop (j + 1))) (unhide hdo) (s' := (sj.does p [.snd ⟨6, p, x, t⟩]).1) (a := .snd ⟨6, p, x, t⟩) (by rw [← unhide hr])
            rw [← (unhide HT).2] at hfin
            have hl2 := Leaves.trans (unhide E).1 (unhide E).2 hE1 ((Leaves.trans (unhide E2).1 (unhide E2).2 hE hl).below hb3)
            have HQ := hide (And.intro (unhide HALL |>.trans hfin) hl2)
            clear hfin hl2 hl
            go_wp2
            exact ⟨rfl, Acts.pan' (unhide HQ).1 (unhide HQ).2⟩
      · have HL : Hid (Acts L w p (s.does p (s.asks p t)) (.returned (.tuple #[])) wr) := by
          show Acts _ _ _ _ _ _
          have := unhide hdo
          rw [List.take_of_length_le (by omega)] at this
          refine Acts.ret' ((unhide HALL).trans this) ?_
          exact Leaves.trans (unhide E).1 (unhide E).2 hE1 (Leaves.below hb3 ⟨L2, e3, e4, hR, hE⟩)
        clear hR hE e3 e4 hown HF
        go_wp2
        go_end0
        exact HL.out
  · exact ⟨rfl, Acts.pan' (does_stop _ (unhide hr)) hl⟩

end Go.Proofs.YtekbjlhbjcikdaaGreat
