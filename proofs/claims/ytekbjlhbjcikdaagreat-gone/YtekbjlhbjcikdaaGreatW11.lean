/-
  Walks of slices.Delete at one message, and of (*Mail).Take.
-/
import Derived.Test.YtekbjlhbjcikdaaGreatW10
namespace Go.Proofs.YtekbjlhbjcikdaaGreat
open Go.RowKit Acc

theorem grown_trans {a b c : World} {r : Option Nat} (h : a.grownBy b r) (k : b.grownBy c r) : a.grownBy c r :=
  ⟨k.os.trans h.os, k.tape.trans h.tape, k.output.trans h.output, Nat.le_trans h.size k.size, fun i hi hr => (k.block i (Nat.lt_of_lt_of_le hi h.size) hr).trans (h.block i hi hr)⟩

/-- A list of cells with one element of four cells taken out, zeros laid behind. -/
def cutCells (l : List Value) (i n : Nat) : List Value := l.take (i * 4) ++ (l.take (n * 4)).drop ((i + 1) * 4)

theorem cut_len (l : List Value) (i n cap : Nat) (hl : l.length = cap * 4) (hn : n ≤ cap) (hi : i < n) : ((l.take (n * 4)).drop ((i + 1) * 4)).length = (n - (i + 1)) * 4 := by
  rw [List.length_drop, List.length_take, hl]; omega
theorem cut_row1 (l : List Value) (i n cap : Nat) (hl : l.length = cap * 4) (hn : n ≤ cap) (hi : i < n) :
    (l.take (i * 4) ++ ((l.take (n * 4)).drop ((i + 1) * 4) ++ l.drop (i * 4 + ((l.take (n * 4)).drop ((i + 1) * 4)).length))).length = cap * 4 := by
  rw [List.length_append, List.length_append, cut_len l i n cap hl hn hi, List.length_take, List.length_drop, hl]; omega
theorem cut_row2 (l : List Value) (i n cap : Nat) (hl : l.length = cap * 4) (hn : n ≤ cap) (hi : i < n) (zs : List Value) (hz : zs.length = 4) (R : List Value)
    (hR : R = l.take (i * 4) ++ ((l.take (n * 4)).drop ((i + 1) * 4) ++ l.drop (i * 4 + ((l.take (n * 4)).drop ((i + 1) * 4)).length))) :
    (R.take ((n - 1) * 4) ++ (zs ++ R.drop ((n - 1) * 4 + zs.length))).length = cap * 4 ∧ (R.take ((n - 1) * 4) ++ (zs ++ R.drop ((n - 1) * 4 + zs.length))).take ((n - 1) * 4) = cutCells l i n := by
  have hRl : R.length = cap * 4 := by rw [hR]; exact cut_row1 l i n cap hl hn hi
  refine ⟨?_, ?_⟩
  · rw [List.length_append, List.length_append, List.length_take, List.length_drop, hRl, hz]; omega
  · have e1 : (R.take ((n - 1) * 4)).length = (n - 1) * 4 := by rw [List.length_take, hRl]; omega
    rw [List.take_append_of_le_length (by omega), List.take_take, Nat.min_self, hR, ← List.append_assoc]
    have e2 : (l.take (i * 4) ++ (l.take (n * 4)).drop ((i + 1) * 4)).length = (n - 1) * 4 := by
      rw [List.length_append, cut_len l i n cap hl hn hi, List.length_take, hl]; omega
    rw [List.take_append_of_le_length (by omega), List.take_of_length_le (by omega)]
    rfl
theorem cut_src (w : World) (g n i : Nat) (cur : Array Value) (hg : w.heap[g]? = some (.cells cur 109 (0, 0))) :
    ∀ j u, ((cur.toList.take (n * 4)).drop ((i + 1) * 4))[j]? = some u → w.cell? ((⟨g, (i + 1) * 4, none⟩ : Addr).add j) = some u := by
  intro j u hu
  rw [addr_add_at, cell_of_row w g ((i + 1) * 4 + j) cur 109 (0, 0) hg]
  rw [List.getElem?_drop, List.getElem?_take] at hu
  split at hu
  · simpa using hu
  · cases hu

theorem zeroMsg : (Builtin.zeroCells (Value.agg #[.int .i64 0, .int .i64 0, .int .i64 0, .int .i64 0]).cells 1).toList = [.int .i64 0, .int .i64 0, .int .i64 0, .int .i64 0] := by kernel_rfl

set_option maxRecDepth 100000 in
set_option maxHeartbeats 1000000 in
theorem delete_full (w : World) (g i : Nat) (cur : Array Value) (hg : w.heap[g]? = some (.cells cur 109 (0, 0))) (hc : i + 1 ≤ maxLen) (hs : cur.size = (i + 1) * 4) :
    Calls Tryz.prog 133 #[.slice (some ⟨g, 0, none⟩) (i + 1) (i + 1), .int .i64 i, .int .i64 (i + 1)] w fun e w' =>
      e = .returned (.slice (some ⟨g, 0, none⟩) i (i + 1)) ∧ w.grownBy w' (some g) ∧ ∃ cur', w'.heap[g]? = some (.cells cur' 109 (0, 0)) ∧ cur'.size = (i + 1) * 4 ∧ cur'.toList.take (i * 4) = cur.toList.take (i * 4) := by
  unfold maxLen at hc
  have hne : ((i : Int) == (i : Int) + 1) = false := by rw [beq_eq_false_iff_ne]; omega
  obtain ⟨i0, hi0, hz0, hz1, hz2⟩ := info_parts Tryz.infoMsg
  have HG := hide hg
  have HS := hide hs
  clear hg hs
  have q6 : (i : Int) ≤ (i : Int) + 1 := by omega
  have q7 : (0 : Int) ≤ (i : Int) + 1 := by omega
  go_enter Tryz.func133, Tryz.ntmps133
  go_wp2
  go_region_law (refine step_append_row rfl (.tmp 22) (.tmp 25) 53 rfl 109 i0 4 Tryz.underlying53 hi0 hz1 g i (i + 1) rfl cur (by exact unhide HG) ⟨g, 0, none⟩ 0 0 [] rfl rfl (by intro j u hu; simp at hu) (by simp) (by omega) (by rw [unhide HS]; simp; omega) ?_; intro w1 HG1 hgr1)
  have HG1' : Hid (w1.heap[g]? = some (.cells cur 109 (0, 0))) := by
    show _ = _
    rw [unhide HG1]
    simp
  clear HG1
  go_wp2_with (refine wpList_clear_one rfl (.tmp 31) 53 rfl 109 (.agg #[.int .i64 0, .int .i64 0, .int .i64 0, .int .i64 0]) [.int .i64 0, .int .i64 0, .int .i64 0, .int .i64 0] Tryz.underlying53 Tryz.zeroValue109 zeroMsg (by simp [Value.oneCell']) g (i * 4) 1 rfl cur 109 (unhide HG1') (by rw [unhide HS]; simp; omega) ?_; intro w2 HG2 hgr2)
  go_ret
  refine ⟨rfl, grown_trans ⟨hgr1.os, hgr1.tape, hgr1.output, hgr1.size, hgr1.block⟩ hgr2, _, unhide HG2, ?_, ?_⟩
  · have := unhide HS
    simp; omega
  · have := unhide HS
    rw [List.toList_toArray, List.take_append_of_le_length (by simp; omega), List.take_take, Nat.min_self]
end Go.Proofs.YtekbjlhbjcikdaaGreat
