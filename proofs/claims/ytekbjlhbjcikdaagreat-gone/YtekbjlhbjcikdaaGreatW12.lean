/-
  Walks of slices.Delete at one message, and of (*Mail).Take.
-/
import Derived.Test.YtekbjlhbjcikdaaGreatW11
namespace Go.Proofs.YtekbjlhbjcikdaaGreat
open Go.RowKit Acc

set_option maxRecDepth 100000 in
set_option maxHeartbeats 1000000 in
theorem delete_more (w : World) (g n cap i : Nat) (cur : Array Value) (hg : w.heap[g]? = some (.cells cur 109 (0, 0))) (hn : n ≤ cap) (hc : cap ≤ maxLen) (hs : cur.size = cap * 4) (hi : i < n) (hcap' : ¬ cap = i + 1) (h1 : ∀ v ∈ cur.toList.take (n * 4), v.oneCell' = true) :
    Calls Tryz.prog 133 #[.slice (some ⟨g, 0, none⟩) n cap, .int .i64 i, .int .i64 (i + 1)] w fun e w' =>
      e = .returned (.slice (some ⟨g, 0, none⟩) (n - 1) cap) ∧ w.grownBy w' (some g) ∧ ∃ cur', w'.heap[g]? = some (.cells cur' 109 (0, 0)) ∧ cur'.size = cap * 4 ∧ cur'.toList.take ((n - 1) * 4) = cutCells cur.toList i n := by
  unfold maxLen at hc
  have hne : ((i : Int) == (i : Int) + 1) = false := by rw [beq_eq_false_iff_ne]; omega
  obtain ⟨i0, hi0, hz0, hz1, hz2⟩ := info_parts Tryz.infoMsg
  have HG := hide hg
  clear hg
  have HL : Hid (cur.toList.length = cap * 4) := by show _ = _; simpa using hs
  have q1 : i ≤ cap := by omega
  have q2 : i + 1 ≤ n := by omega
  have q3 : i + 1 ≤ cap := by omega
  have q4 : (0 : Int) ≤ (i : Int) + 1 := by omega
  have q5 : (i : Int) + 1 ≤ (n : Int) := by omega
  have hnews1 : ∀ v ∈ (cur.toList.take (n * 4)).drop ((i + 1) * 4), v.oneCell' = true := fun v hv => h1 v (List.mem_of_mem_drop hv)
  go_enter Tryz.func133, Tryz.ntmps133
  go_wp2
  go_region_law (refine step_append_row rfl (.tmp 22) (.tmp 25) 53 rfl 109 i0 4 Tryz.underlying53 hi0 hz1 g i cap rfl cur (by exact unhide HG) ⟨g, (i + 1) * 4, none⟩ (n - (i + 1)) (cap - (i + 1)) ((cur.toList.take (n * 4)).drop ((i + 1) * 4)) rfl (cut_len _ _ _ cap (unhide HL) hn hi) (by exact cut_src w g n i cur (unhide HG)) hnews1 (by omega) (by rw [cut_len _ _ _ cap (unhide HL) hn hi, hs]; omega) ?_; intro w1 HG1 hgr1; generalize hR : (List.take (i * 4) cur.toList ++ (List.drop ((i + 1) * 4) (List.take (n * 4) cur.toList) ++ List.drop (i * 4 + (List.drop ((i + 1) * 4) (List.take (n * 4) cur.toList)).length) cur.toList)) = R at HG1; have HR := hide hR; clear hR)
  rw [show i + (n - (i + 1)) = n - 1 from by omega]
  have hRl : R.length = cap * 4 := by rw [← unhide HR]; exact cut_row1 _ i n cap (unhide HL) hn hi
  have hfin := hide (cut_row2 cur.toList i n cap (unhide HL) hn hi [.int .i64 0, .int .i64 0, .int .i64 0, .int .i64 0] rfl R (unhide HR).symm)
  have r1 : n - 1 ≤ cap := by omega
  have r2 : n - 1 ≤ n := by omega
  have r3 : ¬ cap = n - 1 := by omega
  have r4 : n - (n - 1) = 1 := by omega
  have r5 : ((n - 1 : Nat) : Int) ≤ (n : Int) := by omega
  clear hnews1 h1 hcap'
  go_wp2_with (refine wpList_clear_one rfl (.tmp 31) 53 rfl 109 (.agg #[.int .i64 0, .int .i64 0, .int .i64 0, .int .i64 0]) [.int .i64 0, .int .i64 0, .int .i64 0, .int .i64 0] Tryz.underlying53 Tryz.zeroValue109 zeroMsg (by simp [Value.oneCell']) g ((n - 1) * 4) (cap - (n - 1)) rfl R.toArray 109 (unhide HG1) (by simp; omega) ?_; intro w2 HG2 hgr2)
  go_ret
  refine ⟨rfl, grown_trans ⟨hgr1.os, hgr1.tape, hgr1.output, hgr1.size, hgr1.block⟩ hgr2, _, unhide HG2, ?_, ?_⟩
  · simpa using (unhide hfin).1
  · simpa using (unhide hfin).2
end Go.Proofs.YtekbjlhbjcikdaaGreat
