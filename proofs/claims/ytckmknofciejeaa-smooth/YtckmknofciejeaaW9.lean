/-
  Walks of what a node does with a message: prepare, commit, abort, ask, no.
-/
import Derived.Test.YtckmknofciejeaaW8
namespace Go.Proofs.Ytckmknofciejeaa
open Go.RowKit Acc

theorem eqT {a b : Nat} (h : a = b) : ((a : Int) == (b : Int)) = true := by rw [h]; simp
theorem eqF {a b : Nat} (h : ¬ a = b) : ((a : Int) == (b : Int)) = false := by rw [beq_eq_false_iff_ne]; omega
theorem neT {a b : Nat} (h : ¬ a = b) : ((a : Int) != (b : Int)) = true := by rw [bne_iff_ne]; omega
theorem neF {a b : Nat} (h : a = b) : ((a : Int) != (b : Int)) = false := by rw [h]; simp

theorem ask_unknown (s : St) (m : Msg) (h0 : s.state m.to m.trans = 0) : s.ask m = if m.to = 0 then s else (s.write m.to m.trans 4).send ⟨5, m.to, m.frm, m.trans⟩ := by
  unfold St.ask
  rw [if_neg (by omega), if_neg (by omega)]
  by_cases ht : m.to = 0
  · rw [if_neg (fun h => h.2 ht), if_pos ht]
  · rw [if_pos ⟨h0, ht⟩, if_neg ht]

set_option maxRecDepth 100000 in
set_option maxHeartbeats 1000000 in
theorem nodesPrepare_any {w : World} {L : Lay} {s : St} (h : Rep w L s) (hf : Wf s) (m : Msg) (hm : MOk s m) :
    Calls Try.prog 53 #[.pointer (some ⟨L.nb, 0, none⟩), .agg #[.int .i64 m.kind, .int .i64 m.frm, .int .i64 m.to, .int .i64 m.trans]] w fun e w' => e = .returned (.tuple #[]) ∧ Leaves L w (s.prepare m) w' := by
  have hb0 := below_alloc w (Obj.cells #[.int .i64 m.kind, .int .i64 m.frm, .int .i64 m.to, .int .i64 m.trans] 83)
  have hst := hide (nodesStateAt_any (h.below hb0) hf m hm)
  go_enter Try.func53, Try.ntmps53
  go_wp2_with fail
  refine (unhide hst).mono ?_
  rintro e w1 ⟨rfl, hb1⟩
  have hb2 := hb0.more hb1
  obtain ⟨b0, b1, b2, b3⟩ := box_below (m := m) (hb1.mono (by simp))
  have hR := h.below hb2
  by_cases h0 : s.state m.to m.trans = 0
  · have q0 := eqT h0
    have hp : Hid (s.prepare m = s.vote m) := by show _ = _; simp [St.prepare, h0]
    have hv := hide (nodesVote_any hR hf m hm)
    clear h0
    go_wp2_with fail
    refine (unhide hv).mono ?_
    rintro e w3 ⟨rfl, hl⟩
    go_wp2
    first | go_end0 | refine bodyPost_ret (results_none rfl _ _ _) rfl ?_
    exact ⟨rfl, by rw [unhide hp]; exact hl.below hb2⟩
  have q0 := eqF h0
  by_cases h2 : s.state m.to m.trans = 2
  · have q2 := eqT h2
    have hp : Hid (s.prepare m = s.send ⟨2, m.to, m.frm, m.trans⟩) := by show _ = _; simp [St.prepare, h2]
    have hv := hide (nodesAnswer_any hR m 2)
    clear h0 h2
    go_wp2_with fail
    refine (unhide hv).mono ?_
    rintro e w3 ⟨rfl, hl⟩
    go_wp2
    first | go_end0 | refine bodyPost_ret (results_none rfl _ _ _) rfl ?_
    exact ⟨rfl, by rw [unhide hp]; exact hl.below hb2⟩
  have q2 := eqF h2
  by_cases h4 : s.state m.to m.trans = 4
  · have q4 := eqT h4
    have hp : Hid (s.prepare m = s.send ⟨3, m.to, m.frm, m.trans⟩) := by show _ = _; simp [St.prepare, h4]
    have hv := hide (nodesAnswer_any hR m 3)
    clear h0 h2 h4
    go_wp2_with fail
    refine (unhide hv).mono ?_
    rintro e w3 ⟨rfl, hl⟩
    go_wp2
    first | go_end0 | refine bodyPost_ret (results_none rfl _ _ _) rfl ?_
    exact ⟨rfl, by rw [unhide hp]; exact hl.below hb2⟩
  · have q4 := eqF h4
    have hp : Hid (s.prepare m = s) := by show _ = _; simp [St.prepare, h0, h2, h4]
    clear h0 h2 h4
    go_wp2
    first | go_end0 | refine bodyPost_ret (results_none rfl _ _ _) rfl ?_
    exact ⟨rfl, by rw [unhide hp]; exact ⟨L, rfl, rfl, hR, Ext.of_below hb2⟩⟩

set_option maxRecDepth 100000 in
set_option maxHeartbeats 1000000 in
theorem nodesCommit_any {w : World} {L : Lay} {s : St} (h : Rep w L s) (hf : Wf s) (m : Msg) (hm : MOk s m) :
    Calls Try.prog 56 #[.pointer (some ⟨L.nb, 0, none⟩), .agg #[.int .i64 m.kind, .int .i64 m.frm, .int .i64 m.to, .int .i64 m.trans]] w fun e w' => e = .returned (.tuple #[]) ∧ Leaves L w (s.commit m) w' := by
  have hb0 := below_alloc w (Obj.cells #[.int .i64 m.kind, .int .i64 m.frm, .int .i64 m.to, .int .i64 m.trans] 83)
  have hst := hide (nodesStateAt_any (h.below hb0) hf m hm)
  go_enter Try.func56, Try.ntmps56
  go_wp2_with fail
  refine (unhide hst).mono ?_
  rintro e w1 ⟨rfl, hb1⟩
  have hb2 := hb0.more hb1
  obtain ⟨b0, b1, b2, b3⟩ := box_below (m := m) (hb1.mono (by simp))
  have hR := h.below hb2
  by_cases h2 : s.state m.to m.trans = 2
  · have q2 := eqT h2
    have hp : Hid (s.commit m = s.write m.to m.trans 3) := by show _ = _; simp [St.commit, h2]
    have hv := hide (nodesWrite_any hR hf m.to m.trans 3 hm.to)
    clear h2
    go_wp2_with fail
    refine (unhide hv).mono ?_
    rintro e w3 ⟨rfl, hl⟩
    go_wp2
    first | go_end0 | refine bodyPost_ret (results_none rfl _ _ _) rfl ?_
    exact ⟨rfl, by rw [unhide hp]; exact hl.below hb2⟩
  · have q2 := eqF h2
    have hp : Hid (s.commit m = s) := by show _ = _; simp [St.commit, h2]
    clear h2
    go_wp2
    first | go_end0 | refine bodyPost_ret (results_none rfl _ _ _) rfl ?_
    exact ⟨rfl, by rw [unhide hp]; exact ⟨L, rfl, rfl, hR, Ext.of_below hb2⟩⟩

set_option maxRecDepth 100000 in
set_option maxHeartbeats 1000000 in
theorem nodesAbort_any {w : World} {L : Lay} {s : St} (h : Rep w L s) (hf : Wf s) (m : Msg) (hm : MOk s m) :
    Calls Try.prog 57 #[.pointer (some ⟨L.nb, 0, none⟩), .agg #[.int .i64 m.kind, .int .i64 m.frm, .int .i64 m.to, .int .i64 m.trans]] w fun e w' => e = .returned (.tuple #[]) ∧ Leaves L w (s.abort m) w' := by
  have hb0 := below_alloc w (Obj.cells #[.int .i64 m.kind, .int .i64 m.frm, .int .i64 m.to, .int .i64 m.trans] 83)
  have hst := hide (nodesStateAt_any (h.below hb0) hf m hm)
  go_enter Try.func57, Try.ntmps57
  go_wp2_with fail
  refine (unhide hst).mono ?_
  rintro e w1 ⟨rfl, hb1⟩
  have hb2 := hb0.more hb1
  obtain ⟨b0, b1, b2, b3⟩ := box_below (m := m) (hb1.mono (by simp))
  have hR := h.below hb2
  have hv := hide (nodesWrite_any hR hf m.to m.trans 4 hm.to)
  by_cases h2 : s.state m.to m.trans = 2
  · have q2 := eqT h2
    have hp : Hid (s.abort m = s.write m.to m.trans 4) := by show _ = _; simp [St.abort, h2]
    clear h2
    go_wp2_with fail
    refine (unhide hv).mono ?_
    rintro e w3 ⟨rfl, hl⟩
    go_wp2
    first | go_end0 | refine bodyPost_ret (results_none rfl _ _ _) rfl ?_
    exact ⟨rfl, by rw [unhide hp]; exact hl.below hb2⟩
  have q2 := eqF h2
  by_cases h0 : s.state m.to m.trans = 0
  · have q0 := eqT h0
    have hp : Hid (s.abort m = s.write m.to m.trans 4) := by show _ = _; simp [St.abort, h0]
    clear h2 h0
    go_wp2_with fail
    refine (unhide hv).mono ?_
    rintro e w3 ⟨rfl, hl⟩
    go_wp2
    first | go_end0 | refine bodyPost_ret (results_none rfl _ _ _) rfl ?_
    exact ⟨rfl, by rw [unhide hp]; exact hl.below hb2⟩
  · have q0 := eqF h0
    have hp : Hid (s.abort m = s) := by show _ = _; simp [St.abort, h2, h0]
    clear h2 h0
    go_wp2
    first | go_end0 | refine bodyPost_ret (results_none rfl _ _ _) rfl ?_
    exact ⟨rfl, by rw [unhide hp]; exact ⟨L, rfl, rfl, hR, Ext.of_below hb2⟩⟩

set_option maxRecDepth 100000 in
set_option maxHeartbeats 1000000 in
theorem nodesAsk_any {w : World} {L : Lay} {s : St} (h : Rep w L s) (hf : Wf s) (m : Msg) (hm : MOk s m) :
    Calls Try.prog 58 #[.pointer (some ⟨L.nb, 0, none⟩), .agg #[.int .i64 m.kind, .int .i64 m.frm, .int .i64 m.to, .int .i64 m.trans]] w fun e w' => e = .returned (.tuple #[]) ∧ Leaves L w (s.ask m) w' := by
  have hb0 := below_alloc w (Obj.cells #[.int .i64 m.kind, .int .i64 m.frm, .int .i64 m.to, .int .i64 m.trans] 83)
  have hst := hide (nodesStateAt_any (h.below hb0) hf m hm)
  go_enter Try.func58, Try.ntmps58
  go_wp2_with fail
  refine (unhide hst).mono ?_
  rintro e w1 ⟨rfl, hb1⟩
  have hb2 := hb0.more hb1
  obtain ⟨b0, b1, b2, b3⟩ := box_below (m := m) (hb1.mono (by simp))
  have hR := h.below hb2
  by_cases h3 : s.state m.to m.trans = 3
  · have q3 := eqT h3
    have hp : Hid (s.ask m = s.send ⟨4, m.to, m.frm, m.trans⟩) := by show _ = _; simp [St.ask, h3]
    have hv := hide (nodesAnswer_any hR m 4)
    clear h3
    go_wp2_with fail
    refine (unhide hv).mono ?_
    rintro e w3 ⟨rfl, hl⟩
    go_wp2
    first | go_end0 | refine bodyPost_ret (results_none rfl _ _ _) rfl ?_
    exact ⟨rfl, by rw [unhide hp]; exact hl.below hb2⟩
  have q3 := eqF h3
  by_cases h4 : s.state m.to m.trans = 4
  · have q4 := eqT h4
    have hp : Hid (s.ask m = s.send ⟨5, m.to, m.frm, m.trans⟩) := by show _ = _; simp [St.ask, h4]
    have hv := hide (nodesAnswer_any hR m 5)
    clear h3 h4
    go_wp2_with fail
    refine (unhide hv).mono ?_
    rintro e w3 ⟨rfl, hl⟩
    go_wp2
    first | go_end0 | refine bodyPost_ret (results_none rfl _ _ _) rfl ?_
    exact ⟨rfl, by rw [unhide hp]; exact hl.below hb2⟩
  have q4 := eqF h4
  by_cases h0 : s.state m.to m.trans = 0
  · have q0 := eqT h0
    have hp : Hid (s.ask m = if m.to = 0 then s else (s.write m.to m.trans 4).send ⟨5, m.to, m.frm, m.trans⟩) := by
      exact ask_unknown s m h0
    have hv := hide (nodesRefuse_any hR hf m hm)
    clear h3 h4 h0
    go_wp2_with fail
    refine (unhide hv).mono ?_
    rintro e w3 ⟨rfl, hl⟩
    go_wp2
    first | go_end0 | refine bodyPost_ret (results_none rfl _ _ _) rfl ?_
    exact ⟨rfl, by rw [unhide hp]; exact hl.below hb2⟩
  · have q0 := eqF h0
    have hp : Hid (s.ask m = s) := by show _ = _; simp [St.ask, h3, h4, h0]
    clear h3 h4 h0
    go_wp2
    first | go_end0 | refine bodyPost_ret (results_none rfl _ _ _) rfl ?_
    exact ⟨rfl, by rw [unhide hp]; exact ⟨L, rfl, rfl, hR, Ext.of_below hb2⟩⟩

set_option maxRecDepth 100000 in
set_option maxHeartbeats 1000000 in
theorem nodesNo_any {w : World} {L : Lay} {s : St} (h : Rep w L s) (hf : Wf s) (hs : Sm s) (m : Msg) (hm : MOk s m) :
    Calls Try.prog 55 #[.pointer (some ⟨L.nb, 0, none⟩), .agg #[.int .i64 m.kind, .int .i64 m.frm, .int .i64 m.to, .int .i64 m.trans]] w fun e w' => e = .returned (.tuple #[]) ∧ Leaves L w (s.no m) w' := by
  have hb0 := below_alloc w (Obj.cells #[.int .i64 m.kind, .int .i64 m.frm, .int .i64 m.to, .int .i64 m.trans] 83)
  have HF := hide (h.free (Nat.le_refl _) : L.own w.heap.size = none)
  have hst := hide (nodesStateAt_any (h.below hb0) hf m hm)
  go_enter Try.func55, Try.ntmps55
  go_wp2_with fail
  refine (unhide hst).mono ?_
  rintro e w1 ⟨rfl, hb1⟩
  have hb2 := hb0.more hb1
  obtain ⟨b0, b1, b2, b3⟩ := box_below (m := m) (hb1.mono (by simp))
  have hlt : w.heap.size < w1.heap.size := by have := hb1.size; simp at this; omega
  have hR := h.below hb2
  by_cases h1 : s.state m.to m.trans = 1
  · have q1 := neF h1
    have hp : Hid (s.no m = (s.write 0 m.trans 4).tell 5 m.trans) := by show _ = _; simp [St.no, h1]
    have hv := hide (nodesWrite_any hR hf 0 m.trans 4 (Nat.zero_le _))
    clear h1
    go_wp2_with fail
    refine (unhide hv).mono ?_
    rintro e w3 ⟨rfl, L1, e1, e2, hR1, hE1⟩
    obtain ⟨b0, b1, b2, b3⟩ := box_ext (m := m) hE1 hlt (unhide HF) ⟨b0, b1, b2, b3⟩
    have htl := nodesTell_any hR1 (hf.write hs 0 m.trans 4 hm.t1 hm.t2) 5 m.trans hm.t1 hm.t2
    rw [e2] at htl
    have HT := hide htl
    have E := hide (And.intro e1 e2)
    clear htl e1 e2
    go_wp2_with fail
    refine (unhide HT).mono ?_
    rintro e w4 ⟨rfl, hl⟩
    go_wp2
    first | go_end0 | refine bodyPost_ret (results_none rfl _ _ _) rfl ?_
    exact ⟨rfl, by rw [unhide hp]; exact (Leaves.trans (unhide E).1 (unhide E).2 hE1 hl).below hb2⟩
  · have q1 := neT h1
    have hp : Hid (s.no m = s) := by show _ = _; simp [St.no, h1]
    clear h1
    go_wp2
    first | go_end0 | refine bodyPost_ret (results_none rfl _ _ _) rfl ?_
    exact ⟨rfl, by rw [unhide hp]; exact ⟨L, rfl, rfl, hR, Ext.of_below hb2⟩⟩

end Go.Proofs.Ytckmknofciejeaa
