/-
  Walks of send, answer and proclaim.
-/
import Derived.Test.YtekbjlhbjcikdaaGreatW7
namespace Go.Proofs.YtekbjlhbjcikdaaGreat
open Go.RowKit Acc

theorem ownsRow_drew {w : World} {b e size : Nat} {v : Value} {n : Nat} {xs : List Value} (h : w.ownsRow b e size v n xs) : w.drew.ownsRow b e size v n xs := h

set_option maxRecDepth 100000 in
set_option maxHeartbeats 1000000 in
theorem mailSend_any {w : World} {L : Lay} {s : St} (h : Rep w L s) (m : Msg) :
    Calls Tryz.prog 165 #[.pointer (some ⟨L.nb, 80, none⟩), .agg #[.int .i64 m.kind, .int .i64 m.frm, .int .i64 m.to, .int .i64 m.trans]] w fun e w' => e = .returned (.tuple #[]) ∧ Leaves L w (s.send m) w' := by
  have cf := h.cf
  have hnb := World.block_lt_of_cell? w _ cf
  have HD := hide (by have := h.om.len; rw [msgCells_length] at this; omega : L.fv.n = s.fly.length)
  obtain ⟨i0, hi, hz0, hz1, hz2⟩ := info_parts Tryz.infoMsg
  have hR := h.below (below_alloc w (Obj.cells #[.int .i64 m.kind, .int .i64 m.frm, .int .i64 m.to, .int .i64 m.trans] 109))
  by_cases hlt : L.fv.n < 60
  · have ho := h.om
    go_enter Tryz.func165, Tryz.ntmps165
    go_wp2
    go_region_law (refine step_append_one rfl (.tmp 14) (.tmp 16) 53 rfl 109 i0 (.agg #[.int .i64 0, .int .i64 0, .int .i64 0, .int .i64 0]) 4 32 Tryz.underlying53 hi hz0 hz1 hz2 rfl (by decide) L.fv.a L.fv.n L.fv.cap (msgCells s.fly) rfl (by exact (World.ownsRow.alloc (World.ownsRow.alloc ho _) _)) ⟨w.heap.size + 1, 0, none⟩ 1 [.int .i64 m.kind, .int .i64 m.frm, .int .i64 m.to, .int .i64 m.trans] rfl rfl (by exact new_cells_at _ [.int .i64 m.kind, .int .i64 m.frm, .int .i64 m.to, .int .i64 m.trans] _ _ (by simp)) (fun x hx => by simp at hx; rcases hx with rfl | rfl | rfl | rfl <;> rfl) (by unfold maxLen; omega) (by omega) ?_; intro k cap' w3 g1 g2 g3; have hu := Upd.of_append h h.tf (((below_alloc _ _).more (below_alloc _ _)).drew) g1 g2 g3; have cf3 := (World.cell?_of_block (a := ⟨L.nb, 80, none⟩) (hu.keep _ _ h.tn (by simp))).trans cf; have fz3 := (World.frozen?_of_block (a := ⟨L.nb, 80, none⟩) (hu.keep _ _ h.tn (by simp))).trans (h.fz 80); clear g2 g3)
    all_goals
      go_end0
      refine ⟨rfl, ?_⟩
      have hs : s.send m = { s with fly := s.fly ++ [m] } := by simp [St.send, show s.fly.length < 60 from by rw [← unhide HD]; exact hlt]
      rw [hs]
      refine h.flown (s.fly ++ [m]) hu ?_
      rw [msgCells_append]
      exact g1
  · have hfl : ¬ s.fly.length < 60 := by rw [← unhide HD]; exact hlt
    go_enter Tryz.func165, Tryz.ntmps165
    go_wp2
    go_end0
    refine ⟨rfl, L, rfl, rfl, ?_, Ext.of_below (below_alloc _ _)⟩
    rw [show s.send m = s from by simp [St.send, hfl]]
    exact hR

set_option maxRecDepth 100000 in
set_option maxHeartbeats 1000000 in
theorem nodesSend_any {w : World} {L : Lay} {s : St} (h : Rep w L s) (hf : Wf s) (kind frm to trans : Nat) (hn : frm ≤ s.parts) :
    Calls Tryz.prog 130 #[.pointer (some ⟨L.nb, 0, none⟩), .int .i64 kind, .int .i64 frm, .int .i64 to, .int .i64 trans] w (Acts L w frm (s.does frm [.snd ⟨kind, frm, to, trans⟩])) := by
  have hbu := hide (nodesBurn_any h hf frm hn)
  go_enter Tryz.func130, Tryz.ntmps130
  go_wp2_with fail
  refine (unhide hbu).mono ?_
  intro e w1 ha
  rcases ha.cases with ⟨hr, rfl, hl⟩ | ⟨hr, rfl, hl⟩
  · rw [burnt_true (unhide hr)] at hl
    obtain ⟨L1, e1, e2, hR, hE⟩ := hl
    have HDO := hide (does_true (a := .snd ⟨kind, frm, to, trans⟩) (l := []) (unhide hr))
    have hms := mailSend_any hR ⟨kind, frm, to, trans⟩
    rw [e2] at hms
    have HMS := hide hms
    have E := hide (And.intro e1 e2)
    clear hms e1 e2
    go_wp2_with (go_at_call 165; refine (unhide HMS).mono ?_; rintro e w2 ⟨rfl, hl2⟩)
    go_end0
    exact Acts.ret' (unhide HDO) (Leaves.trans (unhide E).1 (unhide E).2 hE hl2)
  · exact ⟨rfl, Acts.pan' (does_false (unhide hr)) hl⟩

set_option maxRecDepth 100000 in
set_option maxHeartbeats 1000000 in
theorem nodesAnswer_any {w : World} {L : Lay} {s : St} (h : Rep w L s) (hf : Wf s) (m : Msg) (hn : m.to ≤ s.parts) (kind : Nat) :
    Calls Tryz.prog 169 #[.pointer (some ⟨L.nb, 0, none⟩), .agg #[.int .i64 m.kind, .int .i64 m.frm, .int .i64 m.to, .int .i64 m.trans], .int .i64 kind] w (Acts L w m.to (s.does m.to [.snd ⟨kind, m.to, m.frm, m.trans⟩])) := by
  have hb0 := below_alloc w (Obj.cells #[.int .i64 m.kind, .int .i64 m.frm, .int .i64 m.to, .int .i64 m.trans] 109)
  have hR := h.below hb0
  go_enter Tryz.func169, Tryz.ntmps169
  go_wp2_with fail
  refine (nodesSend_any hR hf kind m.to m.frm m.trans hn).mono ?_
  intro e w1 ha
  have ha' := ha.below hb0
  rcases ha.cases with ⟨hr, rfl, hl⟩ | ⟨hr, rfl, hl⟩
  · go_wp2
    go_end0
    exact ha'
  · exact ⟨rfl, ha'⟩

theorem does_one_true {s : St} {n : Nat} {a : Deed} (h : (s.does n [a]).2 = true) : (burnt s n).2 = true := by
  cases hb : (burnt s n).2 with
  | true => rfl
  | false => rw [does_false hb] at h; cases h
theorem does_one_false {s : St} {n : Nat} {a : Deed} (h : (s.does n [a]).2 = false) : (burnt s n).2 = false := by
  cases hb : (burnt s n).2 with
  | false => rfl
  | true => rw [does_true hb] at h; cases h
/-- What one act has left, and what comes behind it. -/
theorem does_next {s : St} {n : Nat} {a : Deed} (l : List Deed) (h : (s.does n [a]).2 = true) : (s.does n [a]).1 = (s.burn n).act n a ∧ s.does n (a :: l) = ((s.burn n).act n a).does n l := by
  have hb := does_one_true h
  exact ⟨by rw [does_true hb]; rfl, does_true hb⟩
theorem does_stop {s : St} {n : Nat} {a : Deed} (l : List Deed) (h : (s.does n [a]).2 = false) : s.does n (a :: l) = ((s.does n [a]).1, false) := by
  have hb := does_one_false h
  rw [does_false hb, does_false hb]

theorem does_take_true {s sj s' : St} {n j : Nat} {l : List Deed} {a : Deed} (h : s.does n (l.take j) = (sj, true)) (ha : l[j]? = some a) (h2 : sj.does n [a] = (s', true)) : s.does n (l.take (j + 1)) = (s', true) := by
  rw [List.take_add_one, ha, does_append, h]; exact h2
theorem does_take_false {s sj s' : St} {n j : Nat} {l : List Deed} {a : Deed} (h : s.does n (l.take j) = (sj, true)) (ha : l[j]? = some a) (h2 : sj.does n [a] = (s', false)) : s.does n l = (s', false) := by
  have e : l = l.take j ++ (a :: l.drop (j + 1)) := by
    have := List.take_append_drop j l
    rw [List.drop_eq_getElem?_toList_append, ha] at this
    exact this.symm
  have h3 : (burnt sj n).2 = false := by
    cases hb : (burnt sj n).2 with
    | false => rfl
    | true => rw [does_true hb] at h2; cases h2
  rw [e, does_append, h]
  simp only [if_true]
  rw [does_false h3]
  rw [does_false h3] at h2
  exact h2

theorem Ext.block_lt {o o' : Nat → Option Tag} {w w' : World} (h : Ext o w o' w') {b : Nat} (hb : b < w.heap.size) : b < w'.heap.size := Nat.lt_of_lt_of_le hb h.size
/-- What the world does not own outlives what the world does. -/
theorem ownsRow_ext {o o' : Nat → Option Tag} {w w' : World} {b e size : Nat} {v : Value} {n : Nat} {xs : List Value} (h : w.ownsRow b e size v n xs) (he : Ext o w o' w') (hn : ∀ k, v.ownBlock = some k → o k = none) : w'.ownsRow b e size v n xs := by
  refine ⟨h.1, ?_⟩
  rcases h.2 with h' | ⟨g, cap, cur, hv, h0, hg, r⟩
  · exact .inl h'
  · exact .inr ⟨g, cap, cur, hv, h0, by rw [(he.keep g (Array.getElem?_eq_some_iff.1 hg).1 (hn g (by rw [hv]; rfl))).1]; exact hg, r⟩

/-- There is room for one record more in each log. -/
def Sm (s : St) : Prop := ∀ n, n ≤ s.parts → (s.log n).length ≤ 999999
theorem Wf.write {s : St} (h : Wf s) (hs : Sm s) (n t st : Nat) (h1 : 1 ≤ t) (h2 : t ≤ s.deals.length) : Wf (s.write n t st) where
  p1 := h.p1
  p5 := h.p5
  d12 := h.d12
  w6 := h.w6
  ll := fun i hi => by
    simp only [St.write]
    split
    · rename_i e; rw [List.length_append]; have := hs n (by rw [← e]; exact hi); simp; omega
    · exact h.ll i hi
  lt := fun i x hi hx => by
    simp only [St.write] at hx
    split at hx
    · rename_i e
      rw [List.mem_append] at hx
      rcases hx with hx | hx
      · exact h.lt n x (by rw [← e]; exact hi) hx
      · simp at hx; rw [hx]; exact ⟨h1, h2⟩
    · exact h.lt i x hi hx
  fb := h.fb

set_option maxRecDepth 100000 in
set_option maxHeartbeats 1000000 in
theorem nodesProclaim_any {w : World} {L : Lay} {s : St} (h : Rep w L s) (hf : Wf s) (hs : Sm s) (t st kind : Nat) (ht : 1 ≤ t) (ht' : t ≤ s.deals.length) :
    Calls Tryz.prog 119 #[.pointer (some ⟨L.nb, 0, none⟩), .int .i64 t, .int .i64 st, .int .i64 kind] w (Acts L w 0 (s.does 0 (s.all t st kind))) := by
  have hwr := hide (nodesWrite_any h hf 0 t st (Nat.zero_le _))
  go_enter Tryz.func119, Tryz.ntmps119
  go_wp2_with fail
  refine (unhide hwr).mono ?_
  intro e w0 ha
  rcases ha.cases with ⟨hr, rfl, hl⟩ | ⟨hr, rfl, hl⟩
  · have hb : (burnt s 0).2 = true := by
      cases hb : (burnt s 0).2 with
      | true => rfl
      | false => have := unhide hr; rw [does_false hb] at this; cases this
    rw [does_true hb] at hl
    have hall : s.does 0 (s.all t st kind) = ((s.burn 0).write 0 t st).does 0 ((members (s.deal t)).map fun m => .snd ⟨kind, 0, m, t⟩) := does_true hb
    have hs1 : ((s.burn 0).write 0 t st).deal t = s.deal t := rfl
    have hd1 : ((s.burn 0).write 0 t st).deals = s.deals := rfl
    have hf1 : Wf ((s.burn 0).write 0 t st) := (hf.burn 0).write (fun i hi => hs i hi) 0 t st ht ht'
    obtain ⟨L1, e1, e2, hR1, hE1⟩ := (show Leaves L w ((s.burn 0).write 0 t st) w0 from hl)
    rw [← hs1] at hall
    rw [← hd1] at ht'
    generalize (s.burn 0).write 0 t st = s1 at *
    have HALL := hide hall
    clear hl ha hwr hall hs1 hd1 hb hr h hf hs
    have hde := nodesDeal_any hR1 t ht ht' hf1.d12
    rw [e2] at hde
    have HDE := hide hde
    have E := hide (And.intro e1 e2)
    clear hde e1 e2
    go_wp2_with fail
    refine (unhide HDE).mono ?_
    rintro e w1 ⟨rfl, hb1⟩
    obtain ⟨hn1, hw1⟩ := (hR1.below hb1).deal t ht ht'
    have hw6 := hf1.deal t
    have HN1 := hide hn1
    clear hn1
    go_wp2_with fail
    refine (members_any _ _ _ (s1.deal t) _ (unhide HN1).symm (by rw [unhide HN1]; omega) hw1).mono ?_
    rintro e w2 ⟨sa, sc, rfl, hb2, hown⟩
    have hm5 := membersTo_len (s1.deal t) 5
    have hmm : membersTo (s1.deal t) 5 = members (s1.deal t) := rfl
    rw [hmm] at hm5
    clear hmm hw6
    have hb3 := hb1.more hb2
    generalize members (s1.deal t) = ms at *
    have hfree : ∀ k, (Value.slice sa ms.length sc).ownBlock = some k → L1.own k = none := by
      intro k hk
      have := hown.lt k hk
      cases ho : L1.own k with
      | none => rfl
      | some u => have := hR1.lt k u ho; have := hb1.size; omega
    have HF := hide hfree
    clear hfree
    go_wp2_with fail
    go_loopw [19] (fun i wr => ∃ j : Nat, j ≤ ms.length ∧ i = .int .i64 j ∧ ∃ sj, Hid (s1.does 0 ((ms.map fun m => .snd ⟨kind, 0, m, t⟩).take j) = (sj, true)) ∧ Wf sj ∧ Leaves L1 w2 sj wr) (fun i _ => ms.length - (intOf i).toNat)
    case atStart => exact ⟨0, by omega, rfl, s1, hide rfl, hf1, L1, rfl, rfl, hR1.below hb3, Ext.refl _ _⟩
    case round =>
      obtain ⟨j, hj, rfl, sj, hdo, hfj, L2, e3, e4, hR, hE⟩ := hrel
      by_cases hlt : j < ms.length
      · have hx : ms[j]? = some ms[j] := List.getElem?_eq_getElem _
        generalize ms[j] = x at hx
        have HX := hide (show (ms.map fun m => Deed.snd ⟨kind, 0, m, t⟩)[j]? = some (.snd ⟨kind, 0, x, t⟩) by rw [List.getElem?_map, hx]; rfl)
        have ho2 := Owns.of_row (ownsRow_mono (ownsRow_ext hown hE (unhide HF)) (Nat.zero_le _))
        obtain ⟨g, ha, hcap, _, hc⟩ := ho2.at (by simp; omega)
        simp only at ha hcap
        subst ha
        have c0 := hc j (.int .i64 x) (by simp [natCells, hx])
        have hs := nodesSend_any hR hfj kind 0 x t (Nat.zero_le _)
        rw [e4, (unhide E).2] at hs
        have HS := hide hs
        have E2 := hide (And.intro e3 e4)
        clear hs e3 e4 hc ho2 hx hown HF
        go_wp2_with fail
        refine (unhide HS).mono ?_
        intro e w5 ha
        rcases ha.cases with ⟨hr, rfl, hl⟩ | ⟨hr, rfl, hl⟩
        · have hb : (burnt sj 0).2 = true := by
            cases hb : (burnt sj 0).2 with
            | true => rfl
            | false => have := unhide hr; rw [does_false hb] at this; cases this
          have hd2 := hide (does_true (a := .snd ⟨kind, 0, x, t⟩) (l := []) hb)
          rw [unhide hd2] at hl
          clear hb
          go_wp2
          refine ⟨⟨j + 1, by omega, by go_num, (sj.burn 0).send ⟨kind, 0, x, t⟩, hide (does_take_true (unhide hdo) (unhide HX) (unhide hd2)), (hfj.burn 0).send _, ?_⟩, by simp [intOf]; omega⟩
          exact Leaves.trans (unhide E2).1 (unhide E2).2 hE hl
        · have hfin := does_take_false (unhide hdo) (unhide HX) (s' := (sj.does 0 [.snd ⟨kind, 0, x, t⟩]).1) (by rw [← unhide hr])
          have hl2 := Leaves.trans (unhide E).1 (unhide E).2 hE1 ((Leaves.trans (unhide E2).1 (unhide E2).2 hE hl).below hb3)
          have HQ := hide (And.intro (unhide HALL |>.trans hfin) hl2)
          clear hfin hl2 hl
          go_wp2
          exact ⟨rfl, Acts.pan' (unhide HQ).1 (unhide HQ).2⟩
      · have hjm : j = ms.length := by omega
        have HL : Hid (Acts L w 0 (s.does 0 (s.all t st kind)) (.returned (.tuple #[])) wr) := by
          show Acts _ _ _ _ _ _
          have := unhide hdo
          rw [List.take_of_length_le (by simp; omega)] at this
          refine Acts.ret' ((unhide HALL).trans this) ?_
          exact Leaves.trans (unhide E).1 (unhide E).2 hE1 (Leaves.below hb3 ⟨L2, e3, e4, hR, hE⟩)
        clear hR hE e3 e4 hjm hown HF
        go_wp2
        go_end0
        exact HL.out
  · exact ⟨rfl, Acts.pan' (by
      have hb : (burnt s 0).2 = false := by
        cases hb : (burnt s 0).2 with
        | false => rfl
        | true => have := unhide hr; rw [does_true hb] at this; cases this
      unfold St.all
      rw [does_false hb, does_false hb]) hl⟩

end Go.Proofs.YtekbjlhbjcikdaaGreat
