/-
  Walks of what a node does with a message.
-/
import Derived.Test.YtekbjlhbjcikdaaGreatUpd2
namespace Go.Proofs.YtekbjlhbjcikdaaGreat
open Go.RowKit Acc

structure MOk (s : St) (m : Msg) : Prop where
  to : m.to ≤ s.parts
  frm : m.frm ≤ s.parts
  t1 : 1 ≤ m.trans
  t2 : m.trans ≤ s.deals.length

theorem Ext.cell {o o' : Nat → Option Tag} {w w' : World} (h : Ext o w o' w') {b : Nat} (hb : b < w.heap.size) (hn : o b = none) : ∀ k, w'.cell? ⟨b, k, none⟩ = w.cell? ⟨b, k, none⟩ :=
  fun k => World.cell?_of_block (a := ⟨b, k, none⟩) (h.keep b hb hn).1
theorem Rep.free {w : World} {L : Lay} {s : St} (h : Rep w L s) {b : Nat} (hb : w.heap.size ≤ b) : L.own b = none := by
  cases ho : L.own b with
  | none => rfl
  | some u => have := h.lt b u ho; omega

def msgBox (m : Msg) : Obj := Obj.cells #[.int .i64 m.kind, .int .i64 m.frm, .int .i64 m.to, .int .i64 m.trans] 109

set_option maxRecDepth 100000 in
set_option maxHeartbeats 1000000 in
theorem nodesStateAt_any {w : World} {L : Lay} {s : St} (h : Rep w L s) (hf : Wf s) (m : Msg) (hm : MOk s m) :
    Calls Tryz.prog 167 #[.pointer (some ⟨L.nb, 0, none⟩), .agg #[.int .i64 m.kind, .int .i64 m.frm, .int .i64 m.to, .int .i64 m.trans]] w fun e w' => e = .returned (.int .i64 (s.state m.to m.trans)) ∧ Below w.heap.size w w' := by
  have hR := h.below (below_alloc w (Obj.cells #[.int .i64 m.kind, .int .i64 m.frm, .int .i64 m.to, .int .i64 m.trans] 109))
  have hs := hide (nodesState_any hR m.to m.trans hm.to hf.p5 (hf.ll _ hm.to))
  go_enter Tryz.func167, Tryz.ntmps167
  go_wp2_with (go_at_call 50; refine (unhide hs).mono ?_; rintro e w1 ⟨rfl, rfl⟩)
  go_ret
  exact ⟨rfl, below_alloc _ _⟩

/-- The message's box, behind a call that has grown the world. -/
theorem box_below {w w1 : World} {m : Msg} {t : TypeId} (hb : Below (w.heap.size + 1) (w.alloc (Obj.cells #[.int .i64 m.kind, .int .i64 m.frm, .int .i64 m.to, .int .i64 m.trans] t)) w1) :
    w1.cell? ⟨w.heap.size, 0, none⟩ = some (.int .i64 m.kind) ∧ w1.cell? ⟨w.heap.size, 1, none⟩ = some (.int .i64 m.frm) ∧ w1.cell? ⟨w.heap.size, 2, none⟩ = some (.int .i64 m.to) ∧ w1.cell? ⟨w.heap.size, 3, none⟩ = some (.int .i64 m.trans) := by
  have hc : ∀ k, w1.cell? ⟨w.heap.size, k, none⟩ = (w.alloc (Obj.cells #[.int .i64 m.kind, .int .i64 m.frm, .int .i64 m.to, .int .i64 m.trans] t)).cell? ⟨w.heap.size, k, none⟩ := fun k => hb.cell (p := ⟨w.heap.size, k, none⟩) (by simp)
  refine ⟨?_, ?_, ?_, ?_⟩ <;> rw [hc] <;> simp [go_sem]
/-- The message's box, behind a call that has turned the world. -/
theorem box_ext {o o' : Nat → Option Tag} {w w1 : World} {b : Nat} {m : Msg} (he : Ext o w o' w1) (hb : b < w.heap.size) (hn : o b = none)
    (h : w.cell? ⟨b, 0, none⟩ = some (.int .i64 m.kind) ∧ w.cell? ⟨b, 1, none⟩ = some (.int .i64 m.frm) ∧ w.cell? ⟨b, 2, none⟩ = some (.int .i64 m.to) ∧ w.cell? ⟨b, 3, none⟩ = some (.int .i64 m.trans)) :
    w1.cell? ⟨b, 0, none⟩ = some (.int .i64 m.kind) ∧ w1.cell? ⟨b, 1, none⟩ = some (.int .i64 m.frm) ∧ w1.cell? ⟨b, 2, none⟩ = some (.int .i64 m.to) ∧ w1.cell? ⟨b, 3, none⟩ = some (.int .i64 m.trans) := by
  have hc := he.cell hb hn
  exact ⟨(hc 0).trans h.1, (hc 1).trans h.2.1, (hc 2).trans h.2.2.1, (hc 3).trans h.2.2.2⟩

def commW (s : St) (m : Msg) : List Deed := if s.state m.to m.trans = 2 then [.wrt m.trans 3] else []
def abrtW (s : St) (m : Msg) : List Deed := if s.state m.to m.trans = 2 ∨ s.state m.to m.trans = 0 then [.wrt m.trans 4] else []
def noW (s : St) (m : Msg) : List Deed := if s.state m.to m.trans = 1 then s.all m.trans 4 5 else []

theorem eqT {a b : Nat} (h : a = b) : ((a : Int) == (b : Int)) = true := by rw [h]; simp
theorem eqF {a b : Nat} (h : ¬ a = b) : ((a : Int) == (b : Int)) = false := by rw [beq_eq_false_iff_ne]; omega
theorem neT {a b : Nat} (h : ¬ a = b) : ((a : Int) != (b : Int)) = true := by rw [bne_iff_ne]; omega
theorem neF {a b : Nat} (h : a = b) : ((a : Int) != (b : Int)) = false := by rw [h]; simp

set_option maxRecDepth 100000 in
set_option maxHeartbeats 1000000 in
theorem nodesVote_any {w : World} {L : Lay} {s : St} (h : Rep w L s) (hf : Wf s) (hs : Sm s) (m : Msg) (hm : MOk s m) (h0 : s.state m.to m.trans = 0) :
    Calls Tryz.prog 168 #[.pointer (some ⟨L.nb, 0, none⟩), .agg #[.int .i64 m.kind, .int .i64 m.frm, .int .i64 m.to, .int .i64 m.trans]] w (Acts L w m.to (s.does m.to (s.asked m))) := by
  have hb0 := below_alloc w (Obj.cells #[.int .i64 m.kind, .int .i64 m.frm, .int .i64 m.to, .int .i64 m.trans] 109)
  have hc := hide (nodesClashes_any (h.below hb0) hf m.to m.trans hm.to hm.t1 hm.t2)
  have HF := hide (h.free (Nat.le_refl _) : L.own w.heap.size = none)
  have H0 := hide h0
  clear h0
  cases hcl : s.clashes m.to m.trans with
  | true =>
    have HC := hide hcl
    clear hcl
    have hv : Hid (s.asked m = [.wrt m.trans 4, .snd ⟨3, m.to, m.frm, m.trans⟩]) := by show _ = _; simp [St.asked, unhide HC, unhide H0]
    go_enter Tryz.func168, Tryz.ntmps168
    go_wp2_with fail
    refine (unhide hc).mono ?_
    rintro e w1 ⟨rfl, hb1⟩
    have hb2 := hb0.more hb1
    have hbx := box_below (hb1.mono (by simp))
    have hlt : w.heap.size < w1.heap.size := by have := hb1.size; simp at this; omega
    have hwr := hide (nodesWrite_any (h.below hb2) hf m.to m.trans 4 hm.to)
    rw [unhide HC]
    obtain ⟨b0, b1, b2, b3⟩ := hbx
    go_wp2_with fail
    refine (unhide hwr).mono ?_
    intro e w2 ha
    rcases ha.cases with ⟨hr, rfl, hl⟩ | ⟨hr, rfl, hl⟩
    · have hnx := does_next [.snd ⟨3, m.to, m.frm, m.trans⟩] (unhide hr)
      rw [hnx.1] at hl
      obtain ⟨L1, e1, e2, hR1, hE1⟩ := hl
      have hbx := box_ext (m := m) hE1 hlt (unhide HF) ⟨b0, b1, b2, b3⟩
      clear b0 b1 b2 b3
      obtain ⟨b0, b1, b2, b3⟩ := hbx
      have han := nodesAnswer_any hR1 ((hf.burn m.to).write (fun i hi => hs i hi) m.to m.trans 4 hm.t1 hm.t2) m hm.to 3
      rw [e2] at han
      have HA := hide han
      have E := hide (And.intro e1 e2)
      have HX := hide hnx.2
      clear han e1 e2 hnx ha
      go_wp2_with fail
      refine (unhide HA).mono ?_
      intro e w3 ha
      have ha2 : Acts L w m.to (s.does m.to (s.asked m)) e w3 := by
        rw [unhide hv, unhide HX]
        exact (Acts.trans (unhide E).1 (unhide E).2 hE1 ha).below hb2
      rcases ha.cases with ⟨hr, rfl, hl⟩ | ⟨hr, rfl, hl⟩
      · go_wp2
        first | go_end0 | refine bodyPost_ret (results_none rfl _ _ _) rfl ?_
        exact ha2
      · exact ⟨rfl, ha2⟩
    · refine ⟨rfl, Acts.pan' ?_ (hl.below hb2)⟩
      rw [unhide hv]
      exact does_stop _ (unhide hr)
  | false =>
    have HC := hide hcl
    clear hcl
    have hv : Hid (s.asked m = [.wrt m.trans 2, .snd ⟨2, m.to, m.frm, m.trans⟩]) := by show _ = _; simp [St.asked, unhide HC, unhide H0]
    go_enter Tryz.func168, Tryz.ntmps168
    go_wp2_with fail
    refine (unhide hc).mono ?_
    rintro e w1 ⟨rfl, hb1⟩
    have hb2 := hb0.more hb1
    have hbx := box_below (hb1.mono (by simp))
    have hlt : w.heap.size < w1.heap.size := by have := hb1.size; simp at this; omega
    have hwr := hide (nodesWrite_any (h.below hb2) hf m.to m.trans 2 hm.to)
    rw [unhide HC]
    obtain ⟨b0, b1, b2, b3⟩ := hbx
    go_wp2_with fail
    refine (unhide hwr).mono ?_
    intro e w2 ha
    rcases ha.cases with ⟨hr, rfl, hl⟩ | ⟨hr, rfl, hl⟩
    · have hnx := does_next [.snd ⟨2, m.to, m.frm, m.trans⟩] (unhide hr)
      rw [hnx.1] at hl
      obtain ⟨L1, e1, e2, hR1, hE1⟩ := hl
      have hbx := box_ext (m := m) hE1 hlt (unhide HF) ⟨b0, b1, b2, b3⟩
      clear b0 b1 b2 b3
      obtain ⟨b0, b1, b2, b3⟩ := hbx
      have han := nodesAnswer_any hR1 ((hf.burn m.to).write (fun i hi => hs i hi) m.to m.trans 2 hm.t1 hm.t2) m hm.to 2
      rw [e2] at han
      have HA := hide han
      have E := hide (And.intro e1 e2)
      have HX := hide hnx.2
      clear han e1 e2 hnx ha
      go_wp2_with fail
      refine (unhide HA).mono ?_
      intro e w3 ha
      have ha2 : Acts L w m.to (s.does m.to (s.asked m)) e w3 := by
        rw [unhide hv, unhide HX]
        exact (Acts.trans (unhide E).1 (unhide E).2 hE1 ha).below hb2
      rcases ha.cases with ⟨hr, rfl, hl⟩ | ⟨hr, rfl, hl⟩
      · go_wp2
        first | go_end0 | refine bodyPost_ret (results_none rfl _ _ _) rfl ?_
        exact ha2
      · exact ⟨rfl, ha2⟩
    · refine ⟨rfl, Acts.pan' ?_ (hl.below hb2)⟩
      rw [unhide hv]
      exact does_stop _ (unhide hr)

set_option maxRecDepth 100000 in
set_option maxHeartbeats 1000000 in
theorem nodesRefuse_any {w : World} {L : Lay} {s : St} (h : Rep w L s) (hf : Wf s) (hs : Sm s) (m : Msg) (hm : MOk s m) (h0 : s.state m.to m.trans = 0) :
    Calls Tryz.prog 171 #[.pointer (some ⟨L.nb, 0, none⟩), .agg #[.int .i64 m.kind, .int .i64 m.frm, .int .i64 m.to, .int .i64 m.trans]] w (Acts L w m.to (s.does m.to (s.doubted m))) := by
  have hb0 := below_alloc w (Obj.cells #[.int .i64 m.kind, .int .i64 m.frm, .int .i64 m.to, .int .i64 m.trans] 109)
  have HF := hide (h.free (Nat.le_refl _) : L.own w.heap.size = none)
  have H0 := hide h0
  clear h0
  by_cases h0 : m.to = 0
  · have hv : Hid (s.doubted m = []) := by show _ = _; simp [St.doubted, h0]; rw [← h0, unhide H0]; simp
    have q : ((m.to : Int) == 0) = true := by rw [h0]; rfl
    clear h0
    go_enter Tryz.func171, Tryz.ntmps171
    go_wp2
    first | go_end0 | refine bodyPost_ret (results_none rfl _ _ _) rfl ?_
    rw [unhide hv]
    exact Acts.ret' rfl (Leaves.same h hb0)
  · have hv : Hid (s.doubted m = [.wrt m.trans 4, .snd ⟨5, m.to, m.frm, m.trans⟩]) := by show _ = _; simp [St.doubted, unhide H0, h0]
    have q : ((m.to : Int) == 0) = false := by rw [beq_eq_false_iff_ne]; omega
    clear h0
    have hwr := hide (nodesWrite_any (h.below hb0) hf m.to m.trans 4 hm.to)
    go_enter Tryz.func171, Tryz.ntmps171
    go_wp2_with fail
    refine (unhide hwr).mono ?_
    intro e w2 ha
    rcases ha.cases with ⟨hr, rfl, hl⟩ | ⟨hr, rfl, hl⟩
    · have hnx := does_next [.snd ⟨5, m.to, m.frm, m.trans⟩] (unhide hr)
      rw [hnx.1] at hl
      obtain ⟨L1, e1, e2, hR1, hE1⟩ := hl
      obtain ⟨b0, b1, b2, b3⟩ := box_ext (m := m) hE1 (by simp) (unhide HF) (box_below (Below.refl _ _))
      have han := nodesAnswer_any hR1 ((hf.burn m.to).write (fun i hi => hs i hi) m.to m.trans 4 hm.t1 hm.t2) m hm.to 5
      rw [e2] at han
      have HA := hide han
      have E := hide (And.intro e1 e2)
      have HX := hide hnx.2
      clear han e1 e2 hnx ha
      go_wp2_with fail
      refine (unhide HA).mono ?_
      intro e w3 ha
      have ha2 : Acts L w m.to (s.does m.to (s.doubted m)) e w3 := by
        rw [unhide hv, unhide HX]
        exact (Acts.trans (unhide E).1 (unhide E).2 hE1 ha).below hb0
      rcases ha.cases with ⟨hr, rfl, hl⟩ | ⟨hr, rfl, hl⟩
      · go_wp2
        first | go_end0 | refine bodyPost_ret (results_none rfl _ _ _) rfl ?_
        exact ha2
      · exact ⟨rfl, ha2⟩
    · refine ⟨rfl, Acts.pan' ?_ (hl.below hb0)⟩
      rw [unhide hv]
      exact does_stop _ (unhide hr)

set_option maxRecDepth 100000 in
set_option maxHeartbeats 1000000 in
theorem nodesPrepare_any {w : World} {L : Lay} {s : St} (h : Rep w L s) (hf : Wf s) (hs : Sm s) (m : Msg) (hm : MOk s m) :
    Calls Tryz.prog 134 #[.pointer (some ⟨L.nb, 0, none⟩), .agg #[.int .i64 m.kind, .int .i64 m.frm, .int .i64 m.to, .int .i64 m.trans]] w (Acts L w m.to (s.does m.to (s.asked m))) := by
  have hb0 := below_alloc w (Obj.cells #[.int .i64 m.kind, .int .i64 m.frm, .int .i64 m.to, .int .i64 m.trans] 109)
  have hst := hide (nodesStateAt_any (h.below hb0) hf m hm)
  go_enter Tryz.func134, Tryz.ntmps134
  go_wp2_with fail
  refine (unhide hst).mono ?_
  rintro e w1 ⟨rfl, hb1⟩
  have hb2 := hb0.more hb1
  obtain ⟨b0, b1, b2, b3⟩ := box_below (m := m) (hb1.mono (by simp))
  have hR := h.below hb2
  by_cases h0 : s.state m.to m.trans = 0
  · have q0 := eqT h0
    have hv := hide (nodesVote_any hR hf hs m hm h0)
    clear h0
    go_wp2_with fail
    refine (unhide hv).mono ?_
    intro e w3 ha
    have ha2 := ha.below hb2
    rcases ha.cases with ⟨hr, rfl, hl⟩ | ⟨hr, rfl, hl⟩
    · go_wp2
      first | go_end0 | refine bodyPost_ret (results_none rfl _ _ _) rfl ?_
      exact ha2
    · exact ⟨rfl, ha2⟩
  have q0 := eqF h0
  by_cases h2 : s.state m.to m.trans = 2
  · have q2 := eqT h2
    have hp : Hid (s.asked m = [.snd ⟨2, m.to, m.frm, m.trans⟩]) := by show _ = _; simp [St.asked, *]
    have hv := hide (nodesAnswer_any hR hf m hm.to 2)
    clear h0 h2
    go_wp2_with fail
    refine (unhide hv).mono ?_
    intro e w3 ha
    have ha2 : Acts L w m.to (s.does m.to (s.asked m)) e w3 := by rw [unhide hp]; exact ha.below hb2
    rcases ha.cases with ⟨hr, rfl, hl⟩ | ⟨hr, rfl, hl⟩
    · go_wp2
      first | go_end0 | refine bodyPost_ret (results_none rfl _ _ _) rfl ?_
      exact ha2
    · exact ⟨rfl, ha2⟩
  have q2 := eqF h2
  by_cases h4 : s.state m.to m.trans = 4
  · have q4 := eqT h4
    have hp : Hid (s.asked m = [.snd ⟨3, m.to, m.frm, m.trans⟩]) := by show _ = _; simp [St.asked, *]
    have hv := hide (nodesAnswer_any hR hf m hm.to 3)
    clear h0 h2 h4
    go_wp2_with fail
    refine (unhide hv).mono ?_
    intro e w3 ha
    have ha2 : Acts L w m.to (s.does m.to (s.asked m)) e w3 := by rw [unhide hp]; exact ha.below hb2
    rcases ha.cases with ⟨hr, rfl, hl⟩ | ⟨hr, rfl, hl⟩
    · go_wp2
      first | go_end0 | refine bodyPost_ret (results_none rfl _ _ _) rfl ?_
      exact ha2
    · exact ⟨rfl, ha2⟩
  · have q4 := eqF h4
    have hp : Hid (s.asked m = []) := by show _ = _; simp [St.asked, *]
    clear h0 h2 h4
    go_wp2
    first | go_end0 | refine bodyPost_ret (results_none rfl _ _ _) rfl ?_
    rw [unhide hp]
    exact Acts.ret' rfl (Leaves.same h hb2)

set_option maxRecDepth 100000 in
set_option maxHeartbeats 1000000 in
theorem nodesCommit_any {w : World} {L : Lay} {s : St} (h : Rep w L s) (hf : Wf s) (_hs : Sm s) (m : Msg) (hm : MOk s m) :
    Calls Tryz.prog 137 #[.pointer (some ⟨L.nb, 0, none⟩), .agg #[.int .i64 m.kind, .int .i64 m.frm, .int .i64 m.to, .int .i64 m.trans]] w (Acts L w m.to (s.does m.to (commW s m))) := by
  have hb0 := below_alloc w (Obj.cells #[.int .i64 m.kind, .int .i64 m.frm, .int .i64 m.to, .int .i64 m.trans] 109)
  have hst := hide (nodesStateAt_any (h.below hb0) hf m hm)
  go_enter Tryz.func137, Tryz.ntmps137
  go_wp2_with fail
  refine (unhide hst).mono ?_
  rintro e w1 ⟨rfl, hb1⟩
  have hb2 := hb0.more hb1
  obtain ⟨b0, b1, b2, b3⟩ := box_below (m := m) (hb1.mono (by simp))
  have hR := h.below hb2
  by_cases h2 : s.state m.to m.trans = 2
  · have q2 := eqT h2
    have hp : Hid (commW s m = [.wrt m.trans 3]) := by show _ = _; simp [commW, *]
    have hv := hide (nodesWrite_any hR hf m.to m.trans 3 hm.to)
    clear h2
    go_wp2_with fail
    refine (unhide hv).mono ?_
    intro e w3 ha
    have ha2 : Acts L w m.to (s.does m.to (commW s m)) e w3 := by rw [unhide hp]; exact ha.below hb2
    rcases ha.cases with ⟨hr, rfl, hl⟩ | ⟨hr, rfl, hl⟩
    · go_wp2
      first | go_end0 | refine bodyPost_ret (results_none rfl _ _ _) rfl ?_
      exact ha2
    · exact ⟨rfl, ha2⟩
  · have q2 := eqF h2
    have hp : Hid (commW s m = []) := by show _ = _; simp [commW, *]
    clear h2
    go_wp2
    first | go_end0 | refine bodyPost_ret (results_none rfl _ _ _) rfl ?_
    rw [unhide hp]
    exact Acts.ret' rfl (Leaves.same h hb2)

set_option maxRecDepth 100000 in
set_option maxHeartbeats 1000000 in
theorem nodesAbort_any {w : World} {L : Lay} {s : St} (h : Rep w L s) (hf : Wf s) (_hs : Sm s) (m : Msg) (hm : MOk s m) :
    Calls Tryz.prog 138 #[.pointer (some ⟨L.nb, 0, none⟩), .agg #[.int .i64 m.kind, .int .i64 m.frm, .int .i64 m.to, .int .i64 m.trans]] w (Acts L w m.to (s.does m.to (abrtW s m))) := by
  have hb0 := below_alloc w (Obj.cells #[.int .i64 m.kind, .int .i64 m.frm, .int .i64 m.to, .int .i64 m.trans] 109)
  have hst := hide (nodesStateAt_any (h.below hb0) hf m hm)
  go_enter Tryz.func138, Tryz.ntmps138
  go_wp2_with fail
  refine (unhide hst).mono ?_
  rintro e w1 ⟨rfl, hb1⟩
  have hb2 := hb0.more hb1
  obtain ⟨b0, b1, b2, b3⟩ := box_below (m := m) (hb1.mono (by simp))
  have hR := h.below hb2
  by_cases h2 : s.state m.to m.trans = 2
  · have q2 := eqT h2
    have hp : Hid (abrtW s m = [.wrt m.trans 4]) := by show _ = _; simp [abrtW, *]
    have hv := hide (nodesWrite_any hR hf m.to m.trans 4 hm.to)
    clear h2
    go_wp2_with fail
    refine (unhide hv).mono ?_
    intro e w3 ha
    have ha2 : Acts L w m.to (s.does m.to (abrtW s m)) e w3 := by rw [unhide hp]; exact ha.below hb2
    rcases ha.cases with ⟨hr, rfl, hl⟩ | ⟨hr, rfl, hl⟩
    · go_wp2
      first | go_end0 | refine bodyPost_ret (results_none rfl _ _ _) rfl ?_
      exact ha2
    · exact ⟨rfl, ha2⟩
  have q2 := eqF h2
  by_cases h0 : s.state m.to m.trans = 0
  · have q0 := eqT h0
    have hp : Hid (abrtW s m = [.wrt m.trans 4]) := by show _ = _; simp [abrtW, *]
    have hv := hide (nodesWrite_any hR hf m.to m.trans 4 hm.to)
    clear h2 h0
    go_wp2_with fail
    refine (unhide hv).mono ?_
    intro e w3 ha
    have ha2 : Acts L w m.to (s.does m.to (abrtW s m)) e w3 := by rw [unhide hp]; exact ha.below hb2
    rcases ha.cases with ⟨hr, rfl, hl⟩ | ⟨hr, rfl, hl⟩
    · go_wp2
      first | go_end0 | refine bodyPost_ret (results_none rfl _ _ _) rfl ?_
      exact ha2
    · exact ⟨rfl, ha2⟩
  · have q0 := eqF h0
    have hp : Hid (abrtW s m = []) := by show _ = _; simp [abrtW, *]
    clear h2 h0
    go_wp2
    first | go_end0 | refine bodyPost_ret (results_none rfl _ _ _) rfl ?_
    rw [unhide hp]
    exact Acts.ret' rfl (Leaves.same h hb2)

set_option maxRecDepth 100000 in
set_option maxHeartbeats 1000000 in
theorem nodesAsk_any {w : World} {L : Lay} {s : St} (h : Rep w L s) (hf : Wf s) (hs : Sm s) (m : Msg) (hm : MOk s m) :
    Calls Tryz.prog 139 #[.pointer (some ⟨L.nb, 0, none⟩), .agg #[.int .i64 m.kind, .int .i64 m.frm, .int .i64 m.to, .int .i64 m.trans]] w (Acts L w m.to (s.does m.to (s.doubted m))) := by
  have hb0 := below_alloc w (Obj.cells #[.int .i64 m.kind, .int .i64 m.frm, .int .i64 m.to, .int .i64 m.trans] 109)
  have hst := hide (nodesStateAt_any (h.below hb0) hf m hm)
  go_enter Tryz.func139, Tryz.ntmps139
  go_wp2_with fail
  refine (unhide hst).mono ?_
  rintro e w1 ⟨rfl, hb1⟩
  have hb2 := hb0.more hb1
  obtain ⟨b0, b1, b2, b3⟩ := box_below (m := m) (hb1.mono (by simp))
  have hR := h.below hb2
  by_cases h3 : s.state m.to m.trans = 3
  · have q3 := eqT h3
    have hp : Hid (s.doubted m = [.snd ⟨4, m.to, m.frm, m.trans⟩]) := by show _ = _; simp [St.doubted, *]
    have hv := hide (nodesAnswer_any hR hf m hm.to 4)
    clear h3
    go_wp2_with fail
    refine (unhide hv).mono ?_
    intro e w3 ha
    have ha2 : Acts L w m.to (s.does m.to (s.doubted m)) e w3 := by rw [unhide hp]; exact ha.below hb2
    rcases ha.cases with ⟨hr, rfl, hl⟩ | ⟨hr, rfl, hl⟩
    · go_wp2
      first | go_end0 | refine bodyPost_ret (results_none rfl _ _ _) rfl ?_
      exact ha2
    · exact ⟨rfl, ha2⟩
  have q3 := eqF h3
  by_cases h4 : s.state m.to m.trans = 4
  · have q4 := eqT h4
    have hp : Hid (s.doubted m = [.snd ⟨5, m.to, m.frm, m.trans⟩]) := by show _ = _; simp [St.doubted, *]
    have hv := hide (nodesAnswer_any hR hf m hm.to 5)
    clear h3 h4
    go_wp2_with fail
    refine (unhide hv).mono ?_
    intro e w3 ha
    have ha2 : Acts L w m.to (s.does m.to (s.doubted m)) e w3 := by rw [unhide hp]; exact ha.below hb2
    rcases ha.cases with ⟨hr, rfl, hl⟩ | ⟨hr, rfl, hl⟩
    · go_wp2
      first | go_end0 | refine bodyPost_ret (results_none rfl _ _ _) rfl ?_
      exact ha2
    · exact ⟨rfl, ha2⟩
  have q4 := eqF h4
  by_cases h0 : s.state m.to m.trans = 0
  · have q0 := eqT h0
    have hv := hide (nodesRefuse_any hR hf hs m hm h0)
    clear h3 h4 h0
    go_wp2_with fail
    refine (unhide hv).mono ?_
    intro e w3 ha
    have ha2 := ha.below hb2
    rcases ha.cases with ⟨hr, rfl, hl⟩ | ⟨hr, rfl, hl⟩
    · go_wp2
      first | go_end0 | refine bodyPost_ret (results_none rfl _ _ _) rfl ?_
      exact ha2
    · exact ⟨rfl, ha2⟩
  · have q0 := eqF h0
    have hp : Hid (s.doubted m = []) := by show _ = _; simp [St.doubted, *]
    clear h3 h4 h0
    go_wp2
    first | go_end0 | refine bodyPost_ret (results_none rfl _ _ _) rfl ?_
    rw [unhide hp]
    exact Acts.ret' rfl (Leaves.same h hb2)

set_option maxRecDepth 100000 in
set_option maxHeartbeats 1000000 in
theorem nodesGiveUp_any {w : World} {L : Lay} {s : St} (h : Rep w L s) (hf : Wf s) (hs : Sm s) (t : Nat) (ht : 1 ≤ t) (ht' : t ≤ s.deals.length) :
    Calls Tryz.prog 129 #[.pointer (some ⟨L.nb, 0, none⟩), .int .i64 t] w (Acts L w 0 (s.does 0 (s.all t 4 5))) := by
  go_enter Tryz.func129, Tryz.ntmps129
  go_wp2_with fail
  refine (nodesProclaim_any h hf hs t 4 5 ht ht').mono ?_
  intro e w1 ha
  rcases ha.cases with ⟨hr, rfl, hl⟩ | ⟨hr, rfl, hl⟩
  · go_wp2
    go_end0
    exact ha
  · exact ⟨rfl, ha⟩

set_option maxRecDepth 100000 in
set_option maxHeartbeats 1000000 in
theorem nodesNo_any {w : World} {L : Lay} {s : St} (h : Rep w L s) (hf : Wf s) (hs : Sm s) (m : Msg) (hm : MOk s m) (hto : m.to = 0) :
    Calls Tryz.prog 136 #[.pointer (some ⟨L.nb, 0, none⟩), .agg #[.int .i64 m.kind, .int .i64 m.frm, .int .i64 m.to, .int .i64 m.trans]] w (Acts L w m.to (s.does m.to (noW s m))) := by
  have HTO := hide hto
  clear hto
  have hb0 := below_alloc w (Obj.cells #[.int .i64 m.kind, .int .i64 m.frm, .int .i64 m.to, .int .i64 m.trans] 109)
  have hst := hide (nodesStateAt_any (h.below hb0) hf m hm)
  go_enter Tryz.func136, Tryz.ntmps136
  go_wp2_with fail
  refine (unhide hst).mono ?_
  rintro e w1 ⟨rfl, hb1⟩
  have hb2 := hb0.more hb1
  obtain ⟨b0, b1, b2, b3⟩ := box_below (m := m) (hb1.mono (by simp))
  have hR := h.below hb2
  by_cases h1 : s.state m.to m.trans = 1
  · have q1 := eqT h1
    have hp : Hid ((noW s m) = s.all m.trans 4 5) := by show _ = _; simp [noW, h1]
    have hv := hide (nodesGiveUp_any hR hf hs m.trans hm.t1 hm.t2)
    clear h1
    go_wp2_with fail
    refine (unhide hv).mono ?_
    intro e w3 ha
    have ha2 : Acts L w m.to (s.does m.to (noW s m)) e w3 := by rw [unhide hp, unhide HTO]; exact ha.below hb2
    rcases ha.cases with ⟨hr, rfl, hl⟩ | ⟨hr, rfl, hl⟩
    · go_wp2
      first | go_end0 | refine bodyPost_ret (results_none rfl _ _ _) rfl ?_
      exact ha2
    · exact ⟨rfl, ha2⟩
  · have q1 := eqF h1
    have hp : Hid ((noW s m) = []) := by show _ = _; simp [noW, h1]
    clear h1
    go_wp2
    first | go_end0 | refine bodyPost_ret (results_none rfl _ _ _) rfl ?_
    rw [unhide hp]
    exact Acts.ret' rfl (Leaves.same h hb2)

end Go.Proofs.YtekbjlhbjcikdaaGreat
