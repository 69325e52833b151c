/-
  Walks of Log and Logs.
-/
import Derived.Test.YtekbjlhbjcikdaaGreatW17
namespace Go.Proofs.YtekbjlhbjcikdaaGreat
open Go.RowKit Acc

set_option maxRecDepth 100000 in
set_option maxHeartbeats 1000000 in
theorem nodesLog_any {w : World} {L : Lay} {s : St} (h : Rep w L s) (hf : Wf s) (n : Nat) (hn : n ≤ s.parts) :
    Calls Tryz.prog 48 #[.pointer (some ⟨L.nb, 0, none⟩), .int .i64 n] w fun e w' => ∃ a cap, e = .returned (.slice a (s.log n).length cap) ∧ Below w.heap.size w w' ∧
      w'.ownsRow w.heap.size 43 2 (.slice a (s.log n).length cap) (s.log n).length (recCells (s.log n)) := by
  have c0 := h.c0
  have ca := h.ca n hn
  have hp5 := hf.p5
  have hll := hf.ll n hn
  have ho := h.ol n hn
  have HD := hide (by have := ho.len; rw [recCells_length] at this; omega : (L.lv n).n = (s.log n).length)
  have hdn : (L.lv n).n ≤ 1000000 := by rw [unhide HD]; exact hll
  clear hll
  obtain ⟨i0, hi, hz0, hz1, hz2⟩ := info_parts Tryz.infoRec
  go_enter Tryz.func48, Tryz.ntmps48
  go_wp2_with (first
    | at_make; refine wpList_make_full _ rfl _ _ 33 rfl w.heap.size 43 i0 (.agg #[.int .i64 0, .int .i64 0]) 2 Tryz.underlying33 hi hz0 hz1 _ _ _ _ (L.lv n).n rfl rfl rfl rfl (by rw [hz2]; omega) (by unfold maxLen; omega) (Nat.le_refl _) ?_; intro w1 hown1 hgrow1; have hb1 : Below w.heap.size w w1 := (Below.refl _ _).grown hgrow1 (Nat.le_refl _) (by intro k hk; cases hk); have ho1 := (h.below hb1).ol n hn; clear hgrow1; generalize hmc : madeCells _ _ = mc at hown1; have HM := hide hmc; clear hmc
    | refine wpList_copy_whole rfl _ _ 33 33 rfl 43 i0 2 Tryz.underlying33 hi hz1 w.heap.size (L.lv n).n (L.lv n).n (L.lv n).a (L.lv n).cap rfl rfl mc 43 (recCells (s.log n)) ?hg ?hcur (by rw [recCells_length, unhide HD]) ho1.src (recCells_one _) ?_)
  case hg => exact ownsRow_full hown1
  case hcur => have := hown1.1; simpa using this
  go_ret
  refine ⟨some ⟨w.heap.size, 0, none⟩, (L.lv n).n, by rw [← unhide HD]; rfl, belowSetRow hb1 (Nat.le_refl _) _, ?_⟩
  rw [← unhide HD]
  exact ownsRow_setRow hown1 rfl (by rw [recCells_length, unhide HD])
end Go.Proofs.YtekbjlhbjcikdaaGreat
