/-
  Walks of allNoted and yes.
-/
import Derived.Test.YtekbjlhbjcikdaaGreatW9
import Derived.RegionTactic
namespace Go.Proofs.YtekbjlhbjcikdaaGreat
open Go.RowKit Acc

theorem allNotedOf_drop (s : St) (t : Nat) (l : List Nat) (i x : Nat) (h : l[i]? = some x) : allNotedOf s t (l.drop i) = (s.noted t x && allNotedOf s t (l.drop (i + 1))) := by
  rw [List.drop_eq_getElem?_toList_append, h]; rfl

theorem membersTo_le (ws : List Wr) (n x : Nat) (h : x ∈ membersTo ws n) : 1 ≤ x ∧ x ≤ n := by
  induction n with
  | zero => simp [membersTo] at h
  | succ n ih =>
    simp only [membersTo, List.mem_append] at h
    rcases h with h | h
    · have := ih h; omega
    · split at h
      · simp at h; omega
      · simp at h

set_option maxRecDepth 100000 in
set_option maxHeartbeats 1000000 in
theorem nodesAllNoted_any {w : World} {L : Lay} {s : St} (h : Rep w L s) (hf : Wf s) (t : Nat) (ht : 1 ≤ t) (ht' : t ≤ s.deals.length) :
    Calls Tryz.prog 170 #[.pointer (some ⟨L.nb, 0, none⟩), .int .i64 t] w fun e w' => e = .returned (.bool (s.allNoted t)) ∧ Below w.heap.size w w' := by
  have ht12 : t ≤ 12 := Nat.le_trans ht' hf.d12
  go_enter Tryz.func170, Tryz.ntmps170
  go_wp2_with fail
  refine (nodesDeal_any h t ht ht' hf.d12).mono ?_
  rintro e w1 ⟨rfl, hb1⟩
  obtain ⟨hn1, hw1⟩ := (h.below hb1).deal t ht ht'
  have hw6 := hf.deal t
  have HN1 := hide hn1
  clear hn1
  go_wp2_with fail
  refine (members_any _ _ _ (s.deal t) _ (unhide HN1).symm (by rw [unhide HN1]; omega) hw1).mono ?_
  rintro e w2 ⟨sa, sc, rfl, hb2, hown⟩
  have hm5 := membersTo_len (s.deal t) 5
  have hmm : membersTo (s.deal t) 5 = members (s.deal t) := rfl
  have hle : ∀ x, x ∈ members (s.deal t) → 1 ≤ x ∧ x ≤ 5 := fun x hx => membersTo_le (s.deal t) 5 x hx
  rw [hmm] at hm5
  have HT : Hid (s.allNoted t = allNotedOf s t (members (s.deal t))) := rfl
  have HLE := hide hle
  clear hmm hw6 hle
  have hb3 := hb1.more hb2
  have hR := h.below hb3
  generalize members (s.deal t) = ms at *
  have ho2 := Owns.of_row (ownsRow_mono hown (Nat.zero_le _))
  go_wp2_with fail
  go_loop [12] (fun i => ∃ j : Nat, j ≤ ms.length ∧ i = .int .i64 j ∧ Hid (s.allNoted t = allNotedOf s t (ms.drop j))) (fun i => ms.length - (intOf i).toNat)
  case atStart => exact ⟨0, by omega, rfl, by show _ = _; rw [HT.out]; simp⟩
  case round =>
    obtain ⟨j, hj, rfl, hv⟩ := hrel
    by_cases hlt : j < ms.length
    · have hx : ms[j]? = some ms[j] := List.getElem?_eq_getElem _
      generalize ms[j] = x at hx
      have HX := hide (allNotedOf_drop s t ms j x hx)
      have hx5 := unhide HLE x (List.mem_of_getElem? hx)
      obtain ⟨g, ha, hcap, _, hc⟩ := ho2.at (by simp; omega)
      simp only at ha hcap
      subst ha
      have c0 := hc j (.int .i64 x) (by simp [natCells, hx])
      have cn := hR.cn t x (by omega) (by omega)
      rw [show 2 + (6 * t + x) = 2 + t * 6 + x from by omega] at cn
      clear hc ho2 hx hown
      cases hb : s.noted t x with
      | true =>
        have HB := hide hb
        rw [hb] at cn
        clear hb
        go_wp2
        refine ⟨⟨j + 1, by omega, by go_num, ?_⟩, by simp [intOf]; omega⟩
        show _ = _
        rw [hv.out, unhide HX, unhide HB]; rfl
      | false =>
        have HB := hide hb
        rw [hb] at cn
        clear hb
        go_wp2
        go_ret
        exact ⟨by rw [hv.out, unhide HX, unhide HB]; rfl, hb3⟩
    · have hd : ms.drop j = [] := List.drop_of_length_le (by omega)
      have HD := hide hd
      clear hd
      go_wp2
      go_ret
      exact ⟨by rw [hv.out, unhide HD]; rfl, hb3⟩

/-- What the coordinator does with a vote. -/
def yesR (s : St) (m : Msg) : St × Bool :=
  if s.state m.to m.trans = 1 then
    if (s.note m.trans m.frm).allNoted m.trans = true then (s.note m.trans m.frm).does 0 ((s.note m.trans m.frm).all m.trans 3 4) else (s.note m.trans m.frm, true)
  else (s, true)

set_option maxRecDepth 100000 in
set_option maxHeartbeats 1000000 in
theorem nodesYes_any {w : World} {L : Lay} {s : St} (h : Rep w L s) (hf : Wf s) (hs : Sm s) (m : Msg) (hm : MOk s m) :
    Calls Tryz.prog 135 #[.pointer (some ⟨L.nb, 0, none⟩), .agg #[.int .i64 m.kind, .int .i64 m.frm, .int .i64 m.to, .int .i64 m.trans]] w (Acts L w 0 (yesR s m)) := by
  have hb0 := below_alloc w (Obj.cells #[.int .i64 m.kind, .int .i64 m.frm, .int .i64 m.to, .int .i64 m.trans] 109)
  have HF := hide (h.free (Nat.le_refl _) : L.own w.heap.size = none)
  have hst := hide (nodesStateAt_any (h.below hb0) hf m hm)
  have ht12 : m.trans ≤ 12 := Nat.le_trans hm.t2 hf.d12
  have hf5 : m.frm ≤ 5 := Nat.le_trans hm.frm hf.p5
  go_enter Tryz.func135, Tryz.ntmps135
  go_wp2_with fail
  refine (unhide hst).mono ?_
  rintro e w1 ⟨rfl, hb1⟩
  have hb2 := hb0.more hb1
  obtain ⟨b0, b1, b2, b3⟩ := box_below (m := m) (hb1.mono (by simp))
  have hlt : w.heap.size < w1.heap.size := by have := hb1.size; simp at this; omega
  have hR := h.below hb2
  by_cases h1 : s.state m.to m.trans = 1
  · have q1 := neF h1
    have hp := hide (show yesR s m = _ by unfold yesR; rw [if_pos h1])
    have cn := hR.cn m.trans m.frm (by omega) (by omega)
    have fz := hR.fz (2 + (6 * m.trans + m.frm))
    have hL := hR.noted m.trans m.frm (by omega) (by omega)
    rw [show 2 + (6 * m.trans + m.frm) = 2 + m.trans * 6 + m.frm from by omega] at cn fz hL
    have hL2 := hL.then_below (Below.refl _ _).drew
    have HL := hide hL2
    clear h1 hL hL2
    go_wp2_with fail
    go_region
    generalize hw2 : (w1.setCell ⟨L.nb, 2 + m.trans * 6 + m.frm, none⟩ (.bool true)).drew = w2 at *
    clear hw2
    obtain ⟨L1, e1, e2, hR1, hE1⟩ := unhide HL
    obtain ⟨b0, b1, b2, b3⟩ := box_ext (m := m) hE1 hlt (unhide HF) ⟨b0, b1, b2, b3⟩
    have hf1 := hf.note m.trans m.frm
    have han := nodesAllNoted_any hR1 hf1 m.trans hm.t1 hm.t2
    rw [e2] at han
    have HA := hide han
    have hlt2 : w.heap.size < w2.heap.size := Nat.lt_of_lt_of_le hlt hE1.size
    have HF1 := hide (hE1.keep w.heap.size hlt (unhide HF)).2
    have E := hide (And.intro e1 e2)
    clear han e1 e2 HL cn fz
    go_wp2_with fail
    refine (unhide HA).mono ?_
    rintro e w3 ⟨rfl, hb3⟩
    have hc3 := bcell hb3
    rw [← hc3.1 _ _ hlt2] at b0 b1 b2 b3
    have hlt3 : w.heap.size < w3.heap.size := Nat.lt_of_lt_of_le hlt2 hb3.size
    clear hc3
    cases hall : (s.note m.trans m.frm).allNoted m.trans with
    | true =>
      have hp2 : Hid (yesR s m = (s.note m.trans m.frm).does 0 ((s.note m.trans m.frm).all m.trans 3 4)) := by show _ = _; rw [unhide hp, if_pos hall]
      have hv := nodesProclaim_any (hR1.below hb3) hf1 (fun i hi => hs i hi) m.trans 3 4 hm.t1 hm.t2
      rw [(unhide E).2] at hv
      have HV := hide hv
      clear hall hv
      go_wp2_with fail
      refine (unhide HV).mono ?_
      intro e w4 ha
      have ha2 : Acts L w 0 (yesR s m) e w4 := by
        rw [unhide hp2]
        exact (Acts.trans (unhide E).1 (unhide E).2 hE1 (ha.below hb3)).below hb2
      rcases ha.cases with ⟨hr, rfl, hl⟩ | ⟨hr, rfl, hl⟩
      · go_wp2
        first | go_end0 | refine bodyPost_ret (results_none rfl _ _ _) rfl ?_
        exact ha2
      · exact ⟨rfl, ha2⟩
    | false =>
      have hp2 : Hid (yesR s m = (s.note m.trans m.frm, true)) := by show _ = _; rw [unhide hp, if_neg (by simp [hall])]
      clear hall
      go_wp2
      first | go_end0 | refine bodyPost_ret (results_none rfl _ _ _) rfl ?_
      exact Acts.ret' (unhide hp2) <| (Leaves.trans (unhide E).1 (unhide E).2 hE1 ⟨L1, rfl, rfl, hR1.below hb3, Ext.of_below hb3⟩).below hb2
  · have q1 := neT h1
    have hp : Hid (yesR s m = (s, true)) := by show _ = _; unfold yesR; rw [if_neg h1]
    clear h1
    go_wp2
    first | go_end0 | refine bodyPost_ret (results_none rfl _ _ _) rfl ?_
    exact Acts.ret' (unhide hp) (Leaves.same h hb2)

end Go.Proofs.YtekbjlhbjcikdaaGreat
