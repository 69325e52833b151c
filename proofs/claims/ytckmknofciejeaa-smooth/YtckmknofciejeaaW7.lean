/-
  Walks of deal.Make and of (*Nodes).Begin.
-/
import Derived.Test.YtckmknofciejeaaW6
namespace Go.Proofs.Ytckmknofciejeaa
open Go.RowKit Acc

theorem wrCells_at (ws : List Wr) (j : Nat) (v : Value) (h : (wrCells ws)[j]? = some v) : ∃ i x, ws[i]? = some x ∧
    (j = i * 3 ∧ v = .int .i64 x.part ∨ j = i * 3 + 1 ∧ v = .int .i64 x.key ∨ j = i * 3 + 2 ∧ v = .int .i64 x.val) := by
  induction ws generalizing j with
  | nil => simp [wrCells] at h
  | cons y r ih =>
    match j, h with
    | 0, h => exact ⟨0, y, rfl, .inl ⟨rfl, by simpa [wrCells] using h.symm⟩⟩
    | 1, h => exact ⟨0, y, rfl, .inr (.inl ⟨rfl, by simpa [wrCells] using h.symm⟩)⟩
    | 2, h => exact ⟨0, y, rfl, .inr (.inr ⟨rfl, by simpa [wrCells] using h.symm⟩)⟩
    | j + 3, h =>
      obtain ⟨i, x, hx, hh⟩ := ih j (by simpa [wrCells] using h)
      refine ⟨i + 1, x, by simpa using hx, ?_⟩
      rcases hh with ⟨a, b⟩ | ⟨a, b⟩ | ⟨a, b⟩
      · exact .inl ⟨by omega, b⟩
      · exact .inr (.inl ⟨by omega, b⟩)
      · exact .inr (.inr ⟨by omega, b⟩)

theorem addr_add_at (g o j : Nat) : (⟨g, o, none⟩ : Addr).add j = ⟨g, o + j, none⟩ := by unfold Addr.add; split <;> simp_all

theorem WrAt.src {w : World} {a : Option Addr} {ws : List Wr} (h : WrAt w a ws) : a = none ∧ wrCells ws = [] ∨ ∃ ad, a = some ad ∧ ∀ j v, (wrCells ws)[j]? = some v → w.cell? (ad.add j) = some v := by
  rcases h with rfl | ⟨g, o, rfl, hg, hc⟩
  · cases a with
    | none => exact .inl ⟨rfl, rfl⟩
    | some ad => exact .inr ⟨ad, rfl, fun j v hv => by simp [wrCells] at hv⟩
  · refine .inr ⟨_, rfl, fun j v hv => ?_⟩
    rw [addr_add_at]
    obtain ⟨i, x, hx, hh⟩ := wrCells_at ws j v hv
    obtain ⟨c0, c1, c2⟩ := hc i x hx
    rcases hh with ⟨rfl, rfl⟩ | ⟨rfl, rfl⟩ | ⟨rfl, rfl⟩
    · exact c0
    · exact c1
    · exact c2

set_option maxRecDepth 100000 in
set_option maxHeartbeats 1000000 in
theorem dealMake_any (a : Option Addr) (n cap : Nat) (ws : List Wr) (w : World) (hn : ws.length = n) (hm : n ≤ 1000000) (hw : WrAt w a ws) :
    Calls Try.prog 34 #[.slice a n cap] w fun e w' => ∃ g, e = .returned (.agg #[.slice (some ⟨g, 0, none⟩) n n]) ∧ Below w.heap.size w w' ∧
      w'.ownsRow w.heap.size 45 3 (.slice (some ⟨g, 0, none⟩) n n) n (wrCells ws) := by
  have HN := hide hn
  clear hn
  obtain ⟨i0, hi, hz0, hz1, hz2⟩ := info_parts Try.infoWr
  go_enter Try.func34, Try.ntmps34
  go_wp2_with (first
    | at_make; refine wpList_make_full _ rfl _ _ 27 rfl (w.heap.size + 1) 45 i0 (.agg #[.int .i64 0, .int .i64 0, .int .i64 0]) 3 Try.underlying27 hi hz0 hz1 _ _ _ _ n rfl rfl rfl rfl (by rw [hz2]; omega) (by unfold maxLen; omega) (by simp) ?_; intro w1 hown1 hgrow1; have hb1 : Below (w.heap.size + 1) (w.alloc (Obj.cells #[Value.slice none 0 0] 77)) w1 := (Below.refl _ _).grown hgrow1 (by simp) (by intro k hk; cases hk); clear hgrow1; generalize hmc : madeCells _ _ = mc at hown1; have HM := hide hmc; clear hmc
    | refine wpList_copy_whole rfl (.tmp 7) (.tmp 8) 27 27 rfl 45 i0 3 Try.underlying27 hi hz1 (w.heap.size + 1) n n a cap rfl rfl mc 45 (wrCells ws) (by exact ownsRow_full (by simpa using hown1)) (by have := hown1.1; simpa using this) (by rw [wrCells_length, unhide HN]) (by exact WrAt.src (hw.below ((below_alloc _ _).trans (hb1.mono (by omega))))) (wrCells_one _) ?_; have hb2 : Below (w.heap.size + 1) (w.alloc (Obj.cells #[Value.slice none 0 0] 77)) (w1.setRow (w.heap.size + 1) (wrCells ws).toArray) := belowSetRow hb1 (by omega) _; have hown2 := ownsRow_setRow (ys := wrCells ws) (by simpa using hown1) rfl (by rw [wrCells_length, unhide HN]); generalize w1.setRow (w.heap.size + 1) (wrCells ws).toArray = w2 at *; obtain ⟨hcell, hfz⟩ := bcell (W := w.alloc (Obj.cells #[Value.slice none 0 0] 77)) (hb2.mono (by simp)); clear hown1 HM)
  have hs2 := hb2.size
  simp at hs2
  refine bodyPost_ret (v := .agg #[.slice (some ⟨w.heap.size + 1, 0, none⟩) n n]) ?_ rfl ⟨w.heap.size + 1, rfl, ?_, ?_⟩
  · simp [results, Try.results34, go_sem, hcell]
  · exact ((below_alloc _ _).trans (hb2.mono (by omega))).setCell (Nat.le_refl _) _
  · exact (ownsRow_mono (ownsRow_setCell_below hown2 (by simp) _) (by omega))

end Go.Proofs.Ytckmknofciejeaa
