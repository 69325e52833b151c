/-
  Walks of the face's calls with a message: Deliver, Drop, Double.
-/
import Derived.Test.YtekbjlhbjcikdaaGreatW19
import Derived.Test.YtekbjlhbjcikdaaGreatW2
namespace Go.Proofs.YtekbjlhbjcikdaaGreat
open Go.RowKit Acc Go.MuLone

def own2 (L : Lay) : Nat → Option Tag := fun b => if b = L.wb then some .world else L.own b

/-- A world of the program's, in memory, its lock free. -/
structure RepW (w : World) (L : Lay) (s : St) : Prop where
  rep : Rep w L s
  l0 : w.cell? ⟨L.wb, 0, none⟩ = some (.int .i32 0)
  l2 : w.cell? ⟨L.wb, 2, none⟩ = some (.pointer (some ⟨L.nb, 0, none⟩))
  lf : w.frozen? ⟨L.wb, 0, none⟩ = false
  fr : L.own L.wb = none

def LeavesW (L : Lay) (w : World) (s' : St) (w' : World) : Prop := ∃ L', L'.wb = L.wb ∧ L'.nb = L.nb ∧ RepW w' L' s' ∧ Ext (own2 L) w (own2 L') w'

theorem RepW.wlt {w : World} {L : Lay} {s : St} (h : RepW w L s) : L.wb < w.heap.size := World.block_lt_of_cell? w _ h.l0

/-- The lock is taken. -/
theorem RepW.locked {w : World} {L : Lay} {s : St} (h : RepW w L s) (v : Value) : Rep (w.setCell ⟨L.wb, 0, none⟩ v) L s :=
  h.rep.frame (by simp [World.setCell]) fun b t hb => block_setCell (fun e => by simp only at e; rw [e, h.fr] at hb; cases hb)

/-- What a call under the lock leaves, behind the unlocking. -/
theorem RepW.unlocked {w w2 : World} {L : Lay} {s s' : St} (h : RepW w L s) (hl : Leaves L (w.setCell ⟨L.wb, 0, none⟩ (.int .i32 1)) s' w2) :
    w2.cell? ⟨L.wb, 0, none⟩ = some (.int .i32 1) ∧ w2.cell? ⟨L.wb, 2, none⟩ = some (.pointer (some ⟨L.nb, 0, none⟩)) ∧ w2.frozen? ⟨L.wb, 0, none⟩ = false ∧ LeavesW L w s' (w2.setCell ⟨L.wb, 0, none⟩ (.int .i32 0)) := by
  obtain ⟨L', e1, e2, hR, hE⟩ := hl
  have hlt : L.wb < (w.setCell ⟨L.wb, 0, none⟩ (.int .i32 1)).heap.size := by have := h.wlt; simpa [World.setCell] using this
  obtain ⟨hk, hn⟩ := hE.keep L.wb hlt h.fr
  have c0 : w2.cell? ⟨L.wb, 0, none⟩ = some (.int .i32 1) := (World.cell?_of_block (a := ⟨L.wb, 0, none⟩) hk).trans (World.cell?_setCell_same _ _ _ h.l0)
  have c2 : w2.cell? ⟨L.wb, 2, none⟩ = some (.pointer (some ⟨L.nb, 0, none⟩)) := (World.cell?_of_block (a := ⟨L.wb, 2, none⟩) hk).trans ((World.cell?_setCell_other _ _ _ _ (by simp)).trans h.l2)
  have f0 : w2.frozen? ⟨L.wb, 0, none⟩ = false := (World.frozen?_of_block (a := ⟨L.wb, 0, none⟩) hk).trans (by simpa using h.lf)
  refine ⟨c0, c2, f0, L', e1, e2, ⟨?_, ?_, ?_, ?_, ?_⟩, ?_⟩
  · refine hR.frame (by simp [World.setCell]) fun b t hb => block_setCell (fun e => ?_)
    simp only at e
    rw [e, hn] at hb; cases hb
  · rw [e1]; exact World.cell?_setCell_same _ _ _ c0
  · rw [e1, e2]; exact (World.cell?_setCell_other _ _ _ _ (by simp)).trans c2
  · rw [e1]; simpa using f0
  · rw [e1]; exact hn
  · refine ⟨hE.os, hE.tape, hE.output, by have := hE.size; simpa [World.setCell] using this, fun b hb ho => ?_⟩
    unfold own2 at ho
    split at ho
    · cases ho
    · rename_i hbw
      have hb' : b < (w.setCell ⟨L.wb, 0, none⟩ (.int .i32 1)).heap.size := by simpa [World.setCell] using hb
      obtain ⟨k1, k2⟩ := hE.keep b hb' ho
      refine ⟨?_, ?_⟩
      · rw [block_setCell hbw, k1, block_setCell hbw]
      · unfold own2; rw [e1, if_neg hbw]; exact k2


theorem RepW.below {w w' : World} {L : Lay} {s : St} (h : RepW w L s) (hb : Below w.heap.size w w') : RepW w' L s :=
  ⟨h.rep.below hb, (hb.cell (p := ⟨L.wb, 0, none⟩) h.wlt).trans h.l0, (hb.cell (p := ⟨L.wb, 2, none⟩) h.wlt).trans h.l2, (hb.frozen (p := ⟨L.wb, 0, none⟩) h.wlt).trans h.lf, h.fr⟩
theorem LeavesW.below {L : Lay} {w w1 w2 : World} {s : St} (h : Below w.heap.size w w1) (k : LeavesW L w1 s w2) : LeavesW L w s w2 := by
  obtain ⟨L2, a, b, c, d⟩ := k
  exact ⟨L2, a, b, c, (Ext.of_below h).trans d⟩
/-- What a call leaves that only reads: all that the world owns lies where it lay. -/
def ReadsW (L : Lay) (w : World) (s : St) (w' : World) : Prop := RepW w' L s ∧ Ext (own2 L) w (own2 L) w'
theorem ReadsW.leaves {L : Lay} {w w' : World} {s : St} (h : ReadsW L w s w') : LeavesW L w s w' := ⟨L, rfl, rfl, h.1, h.2⟩
theorem RepW.unread {w w2 : World} {L : Lay} {s : St} (h : RepW w L s) (hb : Below (w.setCell ⟨L.wb, 0, none⟩ (.int .i32 1)).heap.size (w.setCell ⟨L.wb, 0, none⟩ (.int .i32 1)) w2) :
    w2.cell? ⟨L.wb, 0, none⟩ = some (.int .i32 1) ∧ w2.cell? ⟨L.wb, 2, none⟩ = some (.pointer (some ⟨L.nb, 0, none⟩)) ∧ w2.frozen? ⟨L.wb, 0, none⟩ = false ∧ ReadsW L w s (w2.setCell ⟨L.wb, 0, none⟩ (.int .i32 0)) := by
  obtain ⟨c0, c2, f0, _⟩ := h.unlocked (Leaves.same (h.locked (.int .i32 1)) hb)
  have hsz : (w.setCell ⟨L.wb, 0, none⟩ (.int .i32 1)).heap.size = w.heap.size := by simp [World.setCell]
  have hR := (h.locked (.int .i32 1)).below hb
  refine ⟨c0, c2, f0, ⟨?_, ?_, ?_, ?_, h.fr⟩, hb.os, hb.tape, hb.output, ?_, ?_⟩
  · refine hR.frame (by simp [World.setCell]) fun b t hbt => block_setCell (fun e => ?_)
    simp only at e
    rw [e, h.fr] at hbt; cases hbt
  · exact World.cell?_setCell_same _ _ _ c0
  · exact (World.cell?_setCell_other _ _ _ _ (by simp)).trans c2
  · simpa using f0
  · have := hb.size; simpa [World.setCell] using this
  · intro b hlt ho
    have hbw : b ≠ L.wb := by intro e; rw [e] at ho; simp [own2] at ho
    refine ⟨?_, ho⟩
    rw [block_setCell hbw, hb.block b (by rw [hsz]; exact hlt), block_setCell hbw]
theorem cell_lock {w : World} {b k x : Nat} {v : Value} (h : b ≠ x) : (w.setCell ⟨x, 0, none⟩ v).cell? ⟨b, k, none⟩ = w.cell? ⟨b, k, none⟩ := World.cell?_of_block (a := ⟨b, k, none⟩) (block_setCell h)

set_option maxRecDepth 100000 in
set_option maxHeartbeats 1000000 in
theorem withMessage1_any {w : World} {L : Lay} {n f b0 b1 b2 : Nat} {i : Int} {r : St × Bool} (hcf : ∀ (args : Array Value) (w : World), args.size = 2 → (callFunc f args).run Tryz.prog w = .ok (.enter f args) w)
    (c0 : w.cell? ⟨b0, 0, none⟩ = some (.func (Fn.func f) #[] #[])) (c1 : w.cell? ⟨b1, 0, none⟩ = some (.pointer (some ⟨L.wb, 0, none⟩))) (c2 : w.cell? ⟨b2, 0, none⟩ = some (.int .i64 i)) (l2 : w.cell? ⟨L.wb, 2, none⟩ = some (.pointer (some ⟨L.nb, 0, none⟩)))
    (h : Calls Tryz.prog f #[.pointer (some ⟨L.nb, 0, none⟩), .int .i64 i] w.drew (Acts L w.drew n r)) :
    Calls Tryz.prog 94 #[.pointer (some ⟨b0, 0, none⟩), .pointer (some ⟨b1, 0, none⟩), .pointer (some ⟨b2, 0, none⟩)] w (Acts L w n r) := by
  have hcf2 : ∀ (a b : Value) (w : World), (callFunc f #[a, b]).run Tryz.prog w = .ok (.enter f #[a, b]) w := fun a b w => hcf _ w rfl
  have HC := hide h
  clear h hcf
  go_enter Tryz.func94, Tryz.ntmps94
  go_wp2_with fail
  go_region_dies
  all_goals
    rename_i K hK
    refine (unhide HC).mono ?_
    intro e w1 ha
    have ha2 := ha.below (Below.refl _ _).drew
    rcases ha.cases with ⟨hr, rfl, hl⟩ | ⟨hr, rfl, hl⟩
    · refine hK _ _ ?_
      refine wpAny_done (by kernel_rfl) ?_ _
      go_end0
      exact ha2
    · exact ⟨rfl, ha2⟩

end Go.Proofs.YtekbjlhbjcikdaaGreat
