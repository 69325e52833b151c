/-
  Walks of what a node does with a message.
-/
import Derived.Test.YtckmknofciejeaaUpd2
namespace Go.Proofs.Ytckmknofciejeaa
open Go.RowKit Acc

structure MOk (s : St) (m : Msg) : Prop where
  to : m.to ≤ s.parts
  frm : m.frm ≤ s.parts
  t1 : 1 ≤ m.trans
  t2 : m.trans ≤ s.deals.length

theorem Ext.cell {o o' : Nat → Option Tag} {w w' : World} (h : Ext o w o' w') {b : Nat} (hb : b < w.heap.size) (hn : o b = none) : ∀ k, w'.cell? ⟨b, k, none⟩ = w.cell? ⟨b, k, none⟩ :=
  fun k => World.cell?_of_block (a := ⟨b, k, none⟩) (h.keep b hb hn).1
theorem Rep.free {w : World} {L : Lay} {s : St} (h : Rep w L s) {b : Nat} (hb : w.heap.size ≤ b) : L.own b = none := by
  cases ho : L.own b with
  | none => rfl
  | some u => have := h.lt b u ho; omega

def msgBox (m : Msg) : Obj := Obj.cells #[.int .i64 m.kind, .int .i64 m.frm, .int .i64 m.to, .int .i64 m.trans] 83

set_option maxRecDepth 100000 in
set_option maxHeartbeats 1000000 in
theorem nodesStateAt_any {w : World} {L : Lay} {s : St} (h : Rep w L s) (hf : Wf s) (m : Msg) (hm : MOk s m) :
    Calls Try.prog 69 #[.pointer (some ⟨L.nb, 0, none⟩), .agg #[.int .i64 m.kind, .int .i64 m.frm, .int .i64 m.to, .int .i64 m.trans]] w fun e w' => e = .returned (.int .i64 (s.state m.to m.trans)) ∧ Below w.heap.size w w' := by
  have hR := h.below (below_alloc w (Obj.cells #[.int .i64 m.kind, .int .i64 m.frm, .int .i64 m.to, .int .i64 m.trans] 83))
  have hs := hide (nodesState_any hR m.to m.trans hm.to hf.p5 (hf.ll _ hm.to))
  go_enter Try.func69, Try.ntmps69
  go_wp2_with (go_at_call 26; refine (unhide hs).mono ?_; rintro e w1 ⟨rfl, rfl⟩)
  go_ret
  exact ⟨rfl, below_alloc _ _⟩

/-- The message's box, behind a call that has grown the world. -/
theorem box_below {w w1 : World} {m : Msg} {t : TypeId} (hb : Below (w.heap.size + 1) (w.alloc (Obj.cells #[.int .i64 m.kind, .int .i64 m.frm, .int .i64 m.to, .int .i64 m.trans] t)) w1) :
    w1.cell? ⟨w.heap.size, 0, none⟩ = some (.int .i64 m.kind) ∧ w1.cell? ⟨w.heap.size, 1, none⟩ = some (.int .i64 m.frm) ∧ w1.cell? ⟨w.heap.size, 2, none⟩ = some (.int .i64 m.to) ∧ w1.cell? ⟨w.heap.size, 3, none⟩ = some (.int .i64 m.trans) := by
  have hc : ∀ k, w1.cell? ⟨w.heap.size, k, none⟩ = (w.alloc (Obj.cells #[.int .i64 m.kind, .int .i64 m.frm, .int .i64 m.to, .int .i64 m.trans] t)).cell? ⟨w.heap.size, k, none⟩ := fun k => hb.cell (p := ⟨w.heap.size, k, none⟩) (by simp)
  refine ⟨?_, ?_, ?_, ?_⟩ <;> rw [hc] <;> simp [go_sem]
/-- The message's box, behind a call that has turned the world. -/
theorem box_ext {o o' : Nat → Option Tag} {w w1 : World} {b : Nat} {m : Msg} (he : Ext o w o' w1) (hb : b < w.heap.size) (hn : o b = none)
    (h : w.cell? ⟨b, 0, none⟩ = some (.int .i64 m.kind) ∧ w.cell? ⟨b, 1, none⟩ = some (.int .i64 m.frm) ∧ w.cell? ⟨b, 2, none⟩ = some (.int .i64 m.to) ∧ w.cell? ⟨b, 3, none⟩ = some (.int .i64 m.trans)) :
    w1.cell? ⟨b, 0, none⟩ = some (.int .i64 m.kind) ∧ w1.cell? ⟨b, 1, none⟩ = some (.int .i64 m.frm) ∧ w1.cell? ⟨b, 2, none⟩ = some (.int .i64 m.to) ∧ w1.cell? ⟨b, 3, none⟩ = some (.int .i64 m.trans) := by
  have hc := he.cell hb hn
  exact ⟨(hc 0).trans h.1, (hc 1).trans h.2.1, (hc 2).trans h.2.2.1, (hc 3).trans h.2.2.2⟩

set_option maxRecDepth 100000 in
set_option maxHeartbeats 1000000 in
theorem nodesVote_any {w : World} {L : Lay} {s : St} (h : Rep w L s) (hf : Wf s) (m : Msg) (hm : MOk s m) :
    Calls Try.prog 70 #[.pointer (some ⟨L.nb, 0, none⟩), .agg #[.int .i64 m.kind, .int .i64 m.frm, .int .i64 m.to, .int .i64 m.trans]] w fun e w' => e = .returned (.tuple #[]) ∧ Leaves L w (s.vote m) w' := by
  have hb0 := below_alloc w (Obj.cells #[.int .i64 m.kind, .int .i64 m.frm, .int .i64 m.to, .int .i64 m.trans] 83)
  have hc := hide (nodesClashes_any (h.below hb0) hf m.to m.trans hm.to hm.t1 hm.t2)
  have hfree : L.own w.heap.size = none := h.free (Nat.le_refl _)
  have HF := hide hfree
  clear hfree
  cases hcl : s.clashes m.to m.trans with
  | true =>
    have HC := hide hcl
    clear hcl
    have hv : Hid (s.vote m = (s.write m.to m.trans 4).send ⟨3, m.to, m.frm, m.trans⟩) := by show _ = _; simp [St.vote, unhide HC]
    go_enter Try.func70, Try.ntmps70
    go_wp2_with fail
    refine (unhide hc).mono ?_
    rintro e w1 ⟨rfl, hb1⟩
    have hb2 := hb0.more hb1
    have hbx := box_below (hb1.mono (by simp))
    have hlt : w.heap.size < w1.heap.size := by have := hb1.size; simp at this; omega
    have hwr := hide (nodesWrite_any (h.below hb2) hf m.to m.trans 4 hm.to)
    rw [unhide HC]
    obtain ⟨b0, b1, b2, b3⟩ := hbx
    go_wp2_with fail
    refine (unhide hwr).mono ?_
    rintro e w2 ⟨rfl, L1, e1, e2, hR1, hE1⟩
    have hbx := box_ext (m := m) hE1 hlt (unhide HF) ⟨b0, b1, b2, b3⟩
    clear b0 b1 b2 b3
    obtain ⟨b0, b1, b2, b3⟩ := hbx
    have han := nodesAnswer_any hR1 m 3
    rw [e2] at han
    have HA := hide han
    have E := hide (And.intro e1 e2)
    clear han e1 e2
    go_wp2_with fail
    refine (unhide HA).mono ?_
    rintro e w3 ⟨rfl, hl⟩
    go_wp2
    first | go_end0 | refine bodyPost_ret (results_none rfl _ _ _) rfl ?_
    refine ⟨rfl, ?_⟩
    rw [unhide hv]
    exact (Leaves.trans (unhide E).1 (unhide E).2 hE1 hl).below hb2
  | false =>
    have HC := hide hcl
    clear hcl
    have hv : Hid (s.vote m = (s.write m.to m.trans 2).send ⟨2, m.to, m.frm, m.trans⟩) := by show _ = _; simp [St.vote, unhide HC]
    go_enter Try.func70, Try.ntmps70
    go_wp2_with fail
    refine (unhide hc).mono ?_
    rintro e w1 ⟨rfl, hb1⟩
    have hb2 := hb0.more hb1
    have hbx := box_below (hb1.mono (by simp))
    have hlt : w.heap.size < w1.heap.size := by have := hb1.size; simp at this; omega
    have hwr := hide (nodesWrite_any (h.below hb2) hf m.to m.trans 2 hm.to)
    rw [unhide HC]
    obtain ⟨b0, b1, b2, b3⟩ := hbx
    go_wp2_with fail
    refine (unhide hwr).mono ?_
    rintro e w2 ⟨rfl, L1, e1, e2, hR1, hE1⟩
    have hbx := box_ext (m := m) hE1 hlt (unhide HF) ⟨b0, b1, b2, b3⟩
    clear b0 b1 b2 b3
    obtain ⟨b0, b1, b2, b3⟩ := hbx
    have han := nodesAnswer_any hR1 m 2
    rw [e2] at han
    have HA := hide han
    have E := hide (And.intro e1 e2)
    clear han e1 e2
    go_wp2_with fail
    refine (unhide HA).mono ?_
    rintro e w3 ⟨rfl, hl⟩
    go_wp2
    first | go_end0 | refine bodyPost_ret (results_none rfl _ _ _) rfl ?_
    refine ⟨rfl, ?_⟩
    rw [unhide hv]
    exact (Leaves.trans (unhide E).1 (unhide E).2 hE1 hl).below hb2

set_option maxRecDepth 100000 in
set_option maxHeartbeats 1000000 in
theorem nodesRefuse_any {w : World} {L : Lay} {s : St} (h : Rep w L s) (hf : Wf s) (m : Msg) (hm : MOk s m) :
    Calls Try.prog 73 #[.pointer (some ⟨L.nb, 0, none⟩), .agg #[.int .i64 m.kind, .int .i64 m.frm, .int .i64 m.to, .int .i64 m.trans]] w fun e w' => e = .returned (.tuple #[]) ∧
      Leaves L w (if m.to = 0 then s else (s.write m.to m.trans 4).send ⟨5, m.to, m.frm, m.trans⟩) w' := by
  have hb0 := below_alloc w (Obj.cells #[.int .i64 m.kind, .int .i64 m.frm, .int .i64 m.to, .int .i64 m.trans] 83)
  have HF := hide (h.free (Nat.le_refl _) : L.own w.heap.size = none)
  by_cases h0 : m.to = 0
  · rw [if_pos h0]
    have hs : ((m.to : Int) == 0) = true := by rw [h0]; rfl
    clear h0
    go_enter Try.func73, Try.ntmps73
    go_wp2
    first | go_end0 | refine bodyPost_ret (results_none rfl _ _ _) rfl ?_
    exact ⟨rfl, L, rfl, rfl, h.below hb0, Ext.of_below hb0⟩
  · rw [if_neg h0]
    have hs : ((m.to : Int) == 0) = false := by rw [beq_eq_false_iff_ne]; omega
    clear h0
    have hwr := hide (nodesWrite_any (h.below hb0) hf m.to m.trans 4 hm.to)
    go_enter Try.func73, Try.ntmps73
    go_wp2_with fail
    refine (unhide hwr).mono ?_
    rintro e w2 ⟨rfl, L1, e1, e2, hR1, hE1⟩
    have hbx := box_ext (m := m) hE1 (by simp) (unhide HF) (box_below (Below.refl _ _))
    obtain ⟨b0, b1, b2, b3⟩ := hbx
    have han := nodesAnswer_any hR1 m 5
    rw [e2] at han
    have HA := hide han
    have E := hide (And.intro e1 e2)
    clear han e1 e2
    go_wp2_with fail
    refine (unhide HA).mono ?_
    rintro e w3 ⟨rfl, hl⟩
    go_wp2
    first | go_end0 | refine bodyPost_ret (results_none rfl _ _ _) rfl ?_
    exact ⟨rfl, (Leaves.trans (unhide E).1 (unhide E).2 hE1 hl).below hb0⟩
end Go.Proofs.Ytckmknofciejeaa
