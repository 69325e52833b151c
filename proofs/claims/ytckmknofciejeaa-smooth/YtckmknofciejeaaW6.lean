/-
  Walks of the two acts: write and send.
-/
import Derived.Test.YtckmknofciejeaaUpd
import Derived.Deep.RegionLaw
import Derived.Deep.DeepMust
namespace Go.Proofs.Ytckmknofciejeaa
open Go.RowKit Acc

/-- A call that ends, and leaves the world of the plain model in memory. -/
def Leaves (L : Lay) (w : World) (s' : St) (w' : World) : Prop := ∃ L', L'.wb = L.wb ∧ L'.nb = L.nb ∧ Rep w' L' s' ∧ Ext L.own w L'.own w'

set_option maxRecDepth 100000 in
set_option maxHeartbeats 1000000 in
theorem nodesWrite_any {w : World} {L : Lay} {s : St} (h : Rep w L s) (hf : Wf s) (node t st : Nat) (hn : node ≤ s.parts) :
    Calls Try.prog 35 #[.pointer (some ⟨L.nb, 0, none⟩), .int .i64 node, .int .i64 t, .int .i64 st] w fun e w' => e = .returned (.tuple #[]) ∧ Leaves L w (s.write node t st) w' := by
  have c0 := h.c0
  have ca := h.ca node hn
  have hab := World.block_lt_of_cell? w _ ca
  have hp5 := hf.p5
  have hll := hf.ll node hn
  have ho := h.ol node hn
  have HL := hide (by have := ho.len; rw [recCells_length] at this; omega : (L.lv node).n = (s.log node).length)
  have hn6 : (L.lv node).n ≤ 1000000 := by rw [unhide HL]; exact hll
  clear hll
  obtain ⟨i0, hi, hz0, hz1, hz2⟩ := info_parts Try.infoRec
  go_enter Try.func35, Try.ntmps35
  go_wp2_with (at_builtin; go_must (refine wpList_append_one rfl _ _ 85 rfl 89 i0 (.agg #[.int .i64 0, .int .i64 0]) 2 16 Try.underlying85 hi hz0 hz1 hz2 rfl (by decide) (L.lv node).a (L.lv node).n (L.lv node).cap (recCells (s.log node)) rfl (World.ownsRow.alloc ho _) ⟨w.heap.size, 0, none⟩ 1 [.int .i64 t, .int .i64 st] rfl rfl (new_cells _ [.int .i64 t, .int .i64 st] _) (fun x hx => by simp at hx; rcases hx with rfl | rfl <;> rfl) (by unfold maxLen; omega) (by omega) ?_); intro k cap' w3 g1 g2 g3; have hu := Upd.of_append h (h.tl node hn) (below_alloc _ _) g1 g2 g3; have ca3 := (World.cell?_of_block (a := ⟨L.ab, node, none⟩) (hu.keep _ _ h.ta (by simp))).trans ca; have fa3 := (World.frozen?_of_block (a := ⟨L.ab, node, none⟩) (hu.keep _ _ h.ta (by simp))).trans (h.fa node); clear g2 g3)
  go_end0
  refine ⟨rfl, h.logged node t st hn hu ?_⟩
  rw [recCells_append]
  exact g1

theorem ownsRow_drew {w : World} {b e size : Nat} {v : Value} {n : Nat} {xs : List Value} (h : w.ownsRow b e size v n xs) : w.drew.ownsRow b e size v n xs := h

set_option maxRecDepth 100000 in
set_option maxHeartbeats 1000000 in
theorem mailSend_any {w : World} {L : Lay} {s : St} (h : Rep w L s) (m : Msg) :
    Calls Try.prog 68 #[.pointer (some ⟨L.nb, 80, none⟩), .agg #[.int .i64 m.kind, .int .i64 m.frm, .int .i64 m.to, .int .i64 m.trans]] w fun e w' => e = .returned (.tuple #[]) ∧ Leaves L w (s.send m) w' := by
  have cf := h.cf
  have hnb := World.block_lt_of_cell? w _ cf
  have HD := hide (by have := h.om.len; rw [msgCells_length] at this; omega : L.fv.n = s.fly.length)
  obtain ⟨i0, hi, hz0, hz1, hz2⟩ := info_parts Try.infoMsg
  have hR := h.below (below_alloc w (Obj.cells #[.int .i64 m.kind, .int .i64 m.frm, .int .i64 m.to, .int .i64 m.trans] 83))
  by_cases hlt : L.fv.n < 60
  · have ho := h.om
    go_enter Try.func68, Try.ntmps68
    go_wp2
    go_region_law (refine step_append_one rfl (.tmp 14) (.tmp 16) 38 rfl 83 i0 (.agg #[.int .i64 0, .int .i64 0, .int .i64 0, .int .i64 0]) 4 32 Try.underlying38 hi hz0 hz1 hz2 rfl (by decide) L.fv.a L.fv.n L.fv.cap (msgCells s.fly) rfl (by exact (World.ownsRow.alloc (World.ownsRow.alloc ho _) _)) ⟨w.heap.size + 1, 0, none⟩ 1 [.int .i64 m.kind, .int .i64 m.frm, .int .i64 m.to, .int .i64 m.trans] rfl rfl (by exact new_cells_at _ [.int .i64 m.kind, .int .i64 m.frm, .int .i64 m.to, .int .i64 m.trans] _ _ (by simp)) (fun x hx => by simp at hx; rcases hx with rfl | rfl | rfl | rfl <;> rfl) (by unfold maxLen; omega) (by omega) ?_; intro k cap' w3 g1 g2 g3; have hu := Upd.of_append h h.tf (((below_alloc _ _).more (below_alloc _ _)).drew) g1 g2 g3; have cf3 := (World.cell?_of_block (a := ⟨L.nb, 80, none⟩) (hu.keep _ _ h.tn (by simp))).trans cf; have fz3 := (World.frozen?_of_block (a := ⟨L.nb, 80, none⟩) (hu.keep _ _ h.tn (by simp))).trans (h.fz 80); clear g2 g3)
    all_goals
      go_end0
      refine ⟨rfl, ?_⟩
      have hs : s.send m = { s with fly := s.fly ++ [m] } := by simp [St.send, show s.fly.length < 60 from by rw [← unhide HD]; exact hlt]
      rw [hs]
      refine h.flown (s.fly ++ [m]) hu ?_
      rw [msgCells_append]
      exact g1
  · have hfl : ¬ s.fly.length < 60 := by rw [← unhide HD]; exact hlt
    go_enter Try.func68, Try.ntmps68
    go_wp2
    go_end0
    refine ⟨rfl, L, rfl, rfl, ?_, Ext.of_below (below_alloc _ _)⟩
    rw [show s.send m = s from by simp [St.send, hfl]]
    exact hR

set_option maxRecDepth 100000 in
set_option maxHeartbeats 1000000 in
theorem nodesSend_any {w : World} {L : Lay} {s : St} (h : Rep w L s) (kind frm to trans : Nat) :
    Calls Try.prog 52 #[.pointer (some ⟨L.nb, 0, none⟩), .int .i64 kind, .int .i64 frm, .int .i64 to, .int .i64 trans] w fun e w' => e = .returned (.tuple #[]) ∧ Leaves L w (s.send ⟨kind, frm, to, trans⟩) w' := by
  go_enter Try.func52, Try.ntmps52
  go_wp2_with (go_at_call 68; refine (mailSend_any h ⟨kind, frm, to, trans⟩).mono ?_; rintro e w1 ⟨rfl, hl⟩)
  go_end0
  exact ⟨rfl, hl⟩

theorem Leaves.trans {L L1 : Lay} {w w1 w2 : World} {s : St} (hw : L1.wb = L.wb) (hn : L1.nb = L.nb) (he : Ext L.own w L1.own w1) (h : Leaves L1 w1 s w2) : Leaves L w s w2 := by
  obtain ⟨L2, a, b, c, d⟩ := h
  exact ⟨L2, a.trans hw, b.trans hn, c, he.trans d⟩
theorem Leaves.below {L : Lay} {w w1 w2 : World} {s : St} (h : Below w.heap.size w w1) (k : Leaves L w1 s w2) : Leaves L w s w2 :=
  Leaves.trans rfl rfl (Ext.of_below h) k
theorem Leaves.then_below {L : Lay} {w w1 w2 : World} {s : St} (k : Leaves L w s w1) (h : Below w1.heap.size w1 w2) : Leaves L w s w2 := by
  obtain ⟨L2, a, b, c, d⟩ := k
  exact ⟨L2, a, b, c.below h, d.trans (Ext.of_below h)⟩

def msgVal (m : Msg) : Value := .agg #[.int .i64 m.kind, .int .i64 m.frm, .int .i64 m.to, .int .i64 m.trans]

set_option maxRecDepth 100000 in
set_option maxHeartbeats 1000000 in
theorem nodesAnswer_any {w : World} {L : Lay} {s : St} (h : Rep w L s) (m : Msg) (kind : Nat) :
    Calls Try.prog 71 #[.pointer (some ⟨L.nb, 0, none⟩), .agg #[.int .i64 m.kind, .int .i64 m.frm, .int .i64 m.to, .int .i64 m.trans], .int .i64 kind] w fun e w' => e = .returned (.tuple #[]) ∧ Leaves L w (s.send ⟨kind, m.to, m.frm, m.trans⟩) w' := by
  have hR := h.below (below_alloc w (Obj.cells #[.int .i64 m.kind, .int .i64 m.frm, .int .i64 m.to, .int .i64 m.trans] 83))
  go_enter Try.func71, Try.ntmps71
  go_wp2_with (go_at_call 52; refine (nodesSend_any hR kind m.to m.frm m.trans).mono ?_; rintro e w1 ⟨rfl, hl⟩)
  go_end0
  exact ⟨rfl, hl.below (below_alloc _ _)⟩

theorem tellTo_append (s : St) (kind t : Nat) (a b : List Nat) : s.tellTo kind t (a ++ b) = (s.tellTo kind t a).tellTo kind t b := by
  induction a generalizing s with
  | nil => rfl
  | cons x r ih => exact ih _
theorem tellTo_take (s : St) (kind t : Nat) (l : List Nat) (i x : Nat) (h : l[i]? = some x) : s.tellTo kind t (l.take (i + 1)) = (s.tellTo kind t (l.take i)).send ⟨kind, 0, x, t⟩ := by
  rw [List.take_add_one, h, tellTo_append]; rfl

theorem Ext.block_lt {o o' : Nat → Option Tag} {w w' : World} (h : Ext o w o' w') {b : Nat} (hb : b < w.heap.size) : b < w'.heap.size := Nat.lt_of_lt_of_le hb h.size
/-- What the world does not own outlives what the world does. -/
theorem ownsRow_ext {o o' : Nat → Option Tag} {w w' : World} {b e size : Nat} {v : Value} {n : Nat} {xs : List Value} (h : w.ownsRow b e size v n xs) (he : Ext o w o' w') (hn : ∀ k, v.ownBlock = some k → o k = none) : w'.ownsRow b e size v n xs := by
  refine ⟨h.1, ?_⟩
  rcases h.2 with h' | ⟨g, cap, cur, hv, h0, hg, r⟩
  · exact .inl h'
  · exact .inr ⟨g, cap, cur, hv, h0, by rw [(he.keep g (Array.getElem?_eq_some_iff.1 hg).1 (hn g (by rw [hv]; rfl))).1]; exact hg, r⟩

set_option maxRecDepth 100000 in
set_option maxHeartbeats 1000000 in
theorem nodesTell_any {w : World} {L : Lay} {s : St} (h : Rep w L s) (hf : Wf s) (kind t : Nat) (ht : 1 ≤ t) (ht' : t ≤ s.deals.length) :
    Calls Try.prog 36 #[.pointer (some ⟨L.nb, 0, none⟩), .int .i64 kind, .int .i64 t] w fun e w' => e = .returned (.tuple #[]) ∧ Leaves L w (s.tell kind t) w' := by
  go_enter Try.func36, Try.ntmps36
  go_wp2_with fail
  refine (nodesDeal_any h t ht ht' hf.d12).mono ?_
  rintro e w1 ⟨rfl, hb1⟩
  obtain ⟨hn1, hw1⟩ := (h.below hb1).deal t ht ht'
  have hw6 := hf.deal t
  have HN1 := hide hn1
  clear hn1
  go_wp2_with fail
  refine (members_any _ _ _ (s.deal t) _ (unhide HN1).symm (by rw [unhide HN1]; omega) hw1).mono ?_
  rintro e w2 ⟨sa, sc, rfl, hb2, hown⟩
  have hm5 := membersTo_len (s.deal t) 5
  have hmm : membersTo (s.deal t) 5 = members (s.deal t) := rfl
  rw [hmm] at hm5
  have HT : Hid (s.tell kind t = s.tellTo kind t (members (s.deal t))) := rfl
  clear hmm hw6
  have hb3 := hb1.more hb2
  generalize members (s.deal t) = ms at *
  have hfree : ∀ k, (Value.slice sa ms.length sc).ownBlock = some k → L.own k = none := by
    intro k hk
    have := hown.lt k hk
    cases ho : L.own k with
    | none => rfl
    | some u => have := h.lt k u ho; have := hb1.size; omega
  have HF := hide hfree
  clear hfree
  go_wp2_with fail
  go_loopw [13] (fun i wr => ∃ j : Nat, j ≤ ms.length ∧ i = .int .i64 j ∧ Leaves L w2 (s.tellTo kind t (ms.take j)) wr) (fun i _ => ms.length - (intOf i).toNat)
  case atStart => exact ⟨0, by omega, rfl, L, rfl, rfl, h.below hb3, Ext.refl _ _⟩
  case round =>
    obtain ⟨j, hj, rfl, L1, e1, e2, hR, hE⟩ := hrel
    by_cases hlt : j < ms.length
    · have hx : ms[j]? = some ms[j] := List.getElem?_eq_getElem _
      generalize ms[j] = x at hx
      have HX := hide (tellTo_take s kind t ms j x hx)
      have ho2 := Owns.of_row (ownsRow_mono (ownsRow_ext hown hE (unhide HF)) (Nat.zero_le _))
      obtain ⟨g, ha, hcap, _, hc⟩ := ho2.at (by simp; omega)
      simp only at ha hcap
      subst ha
      have c0 := hc j (.int .i64 x) (by simp [natCells, hx])
      have hs := nodesSend_any hR kind 0 x t
      rw [e2] at hs
      have HS := hide hs
      have E1 := hide e1
      have E2 := hide e2
      clear hs e1 e2 hc ho2 hx hown HF
      go_wp2_with (go_at_call 52; refine (unhide HS).mono ?_; rintro e w5 ⟨rfl, hl⟩)
      refine ⟨⟨j + 1, by omega, by go_num, ?_⟩, by simp [intOf]; omega⟩
      rw [unhide HX]
      exact Leaves.trans (unhide E1) (unhide E2) hE hl
    · have hjm : j = ms.length := by omega
      have HL : Hid (Leaves L w (s.tell kind t) wr) := by
        show Leaves _ _ _ _
        rw [HT.out]
        refine Leaves.below hb3 ⟨L1, e1, e2, ?_, hE⟩
        rw [hjm, List.take_length] at hR
        exact hR
      clear hR hE e1 e2 hjm hown HF
      go_wp2
      go_end0
      exact ⟨rfl, HL.out⟩
end Go.Proofs.Ytckmknofciejeaa
