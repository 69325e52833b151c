/-
  Walks of nodes.Make and New.
-/
import Derived.Test.YtekbjlhbjcikdaaGreatW25
namespace Go.Proofs.YtekbjlhbjcikdaaGreat
open Go.RowKit Acc Go.MuLone

theorem Tryz.infoNode : (Tryz.prog.info? 130).map (fun i => (i.zero, i.size, i.bytes)) = some (some (.agg #[.slice none 0 0, .bool false, .bool false, .int .i64 0]), 4, 48) := by kernel_rfl

theorem zeroNodes : Tryz.zeroCells126.toList = [.slice none 0 0, .slice none 0 0] ++ List.replicate 78 (.bool false) ++ [.slice none 0 0] := by kernel_rfl

theorem zeroNodes_at (v : Value) : (Tryz.zeroCells126.setIfInBounds 0 v)[0]? = some v ∧ (Tryz.zeroCells126.setIfInBounds 0 v)[1]? = some (.slice none 0 0) ∧
    (∀ k, k < 78 → (Tryz.zeroCells126.setIfInBounds 0 v)[2 + k]? = some (.bool false)) ∧ (Tryz.zeroCells126.setIfInBounds 0 v)[80]? = some (.slice none 0 0) := by
  have e : ∀ j : Nat, (Tryz.zeroCells126.setIfInBounds 0 v)[j]? = (([.slice none 0 0, .slice none 0 0] ++ List.replicate 78 (.bool false) ++ [.slice none 0 0] : List Value).set 0 v)[j]? := by
    intro j
    rw [← zeroNodes, ← Array.toList_setIfInBounds, Array.getElem?_toList]
  refine ⟨?_, ?_, fun k hk => ?_, ?_⟩
  · rw [e]; simp
  · rw [e]; simp
  · rw [e, List.getElem?_set_ne (by omega), List.getElem?_append_left (by simp; omega), List.getElem?_append_right (by simp)]
    have hk2 : 2 + k - [Value.slice none 0 0, Value.slice none 0 0].length = k := by simp
    rw [hk2, List.getElem?_replicate, if_pos hk]
  · rw [e, List.getElem?_set_ne (by omega), List.getElem?_append_right (by simp)]
    simp

def nodeZero : Array Value := #[.slice none 0 0, .bool false, .bool false, .int .i64 0]
theorem made_at (z : Array Value) (n k : Nat) (hk : k < n) : (madeCells z n).toList[k]? = some z[k % z.size]! := by
  unfold madeCells
  rw [Array.getElem?_toList, Array.getElem?_map, Array.getElem?_range, if_pos hk]
  rfl
theorem made_nodes (n j : Nat) (h : j < n) : (madeCells nodeZero (n * 4)).toList[j * 4]? = some (.slice none 0 0) ∧ (madeCells nodeZero (n * 4)).toList[j * 4 + 1]? = some (.bool false) ∧
    (madeCells nodeZero (n * 4)).toList[j * 4 + 2]? = some (.bool false) ∧ (madeCells nodeZero (n * 4)).toList[j * 4 + 3]? = some (.int .i64 0) := by
  have hs : nodeZero.size = 4 := rfl
  refine ⟨?_, ?_, ?_, ?_⟩
  · rw [made_at _ _ _ (by omega), hs, show j * 4 % 4 = 0 from by omega]; rfl
  · rw [made_at _ _ _ (by omega), hs, show (j * 4 + 1) % 4 = 1 from by omega]; rfl
  · rw [made_at _ _ _ (by omega), hs, show (j * 4 + 2) % 4 = 2 from by omega]; rfl
  · rw [made_at _ _ _ (by omega), hs, show (j * 4 + 3) % 4 = 3 from by omega]; rfl

set_option maxRecDepth 100000 in
set_option maxHeartbeats 1000000 in
theorem nodesMake_any (w : World) (p : Nat) (hp : p ≤ 5) :
    Calls Tryz.prog 72 #[.int .i64 p] w fun e w' => ∃ L : Lay, L.wb = 0 ∧ e = .returned (.pointer (some ⟨L.nb, 0, none⟩)) ∧ Rep w' L (St.new p) ∧ Below w.heap.size w w' ∧ ∀ b t, L.own b = some t → w.heap.size ≤ b := by
  obtain ⟨i0, hi, hz0, hz1, hz2⟩ := info_parts Tryz.infoNode
  go_enter Tryz.func72, Tryz.ntmps72
  go_wp2_with (at_make; refine wpList_make_full _ rfl _ _ 118 rfl w.heap.size 130 i0 (.agg #[.slice none 0 0, .bool false, .bool false, .int .i64 0]) 4 Tryz.underlying118 hi hz0 hz1 _ _ _ _ (p + 1) rfl rfl rfl rfl (by rw [hz2]; omega) (by unfold maxLen; omega) (by simp) ?_; intro w1 hown1 hgrow1)
  go_ret
  have hmz : (Value.agg #[.slice none 0 0, .bool false, .bool false, .int .i64 0]).cells = nodeZero := rfl
  rw [hmz] at hown1
  have hlt := (hown1.lt w.heap.size rfl).2
  have hb1 : Below w.heap.size w w1 := (Below.refl _ _).grown hgrow1 (Nat.le_refl _) (by intro k hk; cases hk)
  obtain ⟨z0, z1, z2, z3⟩ := zeroNodes_at (.slice (some ⟨w.heap.size, 0, none⟩) (p + 1) (p + 1))
  obtain ⟨g, ha, _, hfz, hc⟩ := (Owns.of_row (ownsRow_mono hown1 (Nat.zero_le _))).at (by simp)
  simp only [Option.some.injEq, Addr.mk.injEq, and_true] at ha
  subst ha
  have cN : ∀ k, (w1.alloc (Obj.cells (Tryz.zeroCells126.setIfInBounds 0 (.slice (some ⟨w.heap.size, 0, none⟩) (p + 1) (p + 1))) 126)).cell? ⟨w1.heap.size, k, none⟩ = (Tryz.zeroCells126.setIfInBounds 0 (.slice (some ⟨w.heap.size, 0, none⟩) (p + 1) (p + 1)))[k]? := fun k => World.cell?_alloc_at _ _ _ _ rfl
  have cA : ∀ k, (w1.alloc (Obj.cells (Tryz.zeroCells126.setIfInBounds 0 (.slice (some ⟨w.heap.size, 0, none⟩) (p + 1) (p + 1))) 126)).cell? ⟨w.heap.size, k, none⟩ = w1.cell? ⟨w.heap.size, k, none⟩ := fun k => World.cell?_alloc_past _ _ _ hlt
  refine ⟨⟨0, w1.heap.size, w.heap.size, fun _ => ⟨none, 0, 0⟩, ⟨none, 0, 0⟩, fun _ => ⟨none, 0, 0⟩, ⟨none, 0, 0⟩, fun b => if b = w.heap.size then some .all else if b = w1.heap.size then some .nodes else none⟩, rfl, rfl, ?_, hb1.more (below_alloc _ _), ?_⟩
  · refine ⟨(cN 0).trans z0, (cN 1).trans z1, fun t m ht hm => (cN _).trans (z2 _ (by omega)), (cN 80).trans z3, fun k => World.frozen?_alloc_at _ _ _ _ rfl, fun i hi => (cA _).trans (hc _ _ (made_nodes (p + 1) i (by have : i ≤ p := hi; omega)).1), fun i hi => (cA _).trans (hc _ _ (made_nodes (p + 1) i (by have : i ≤ p := hi; omega)).2.1), fun i hi => (cA _).trans (hc _ _ (made_nodes (p + 1) i (by have : i ≤ p := hi; omega)).2.2.1), fun i hi => (cA _).trans (hc _ _ (made_nodes (p + 1) i (by have : i ≤ p := hi; omega)).2.2.2), fun k => (World.frozen?_alloc_past _ _ _ hlt).trans (hfz k), ?_, ?_, ?_, ?_, ?_, ?_, ?_, ?_, ?_, ?_, ?_⟩
    · intro i hi; exact World.ownsRow_nil _ _ _ _
    · exact World.ownsRow_nil _ _ _ _
    · intro t ht; simp [St.new] at ht
    · exact World.ownsRow_nil _ _ _ _
    · show (if w1.heap.size = w.heap.size then _ else _) = _
      rw [if_neg (by omega), if_pos rfl]
    · simp
    · intro i hi a ha; cases ha
    · intro a ha; cases ha
    · intro t ht; simp [St.new] at ht
    · intro a ha; cases ha
    · intro b t hb
      simp only at hb
      split at hb
      · simp; omega
      · split at hb
        · simp; omega
        · cases hb
  · intro b t hb
    simp only at hb
    split at hb
    · omega
    · split at hb
      · omega
      · cases hb

theorem Rep.wb {w : World} {L : Lay} {s : St} (h : Rep w L s) (b : Nat) : Rep w { L with wb := b } s :=
  ⟨h.c0, h.c1, h.cn, h.cf, h.fz, h.ca, h.cd, h.cb, h.cu, h.fa, h.ol, h.od, h.ow, h.om, h.tn, h.ta, h.tl, h.td, h.tw, h.tf, h.lt⟩

set_option maxRecDepth 100000 in
set_option maxHeartbeats 1000000 in
theorem new_any (w : World) (p : Nat) (h1 : 1 ≤ p) (hp : p ≤ 5) :
    Calls Tryz.prog 38 #[.int .i64 p] w fun e w' => ∃ L : Lay, e = .returned (.tuple #[.pointer (some ⟨L.wb, 0, none⟩), .int .i64 0]) ∧ RepW w' L (St.new p) ∧ Below w.heap.size w w' ∧ ∀ b t, own2 L b = some t → w.heap.size ≤ b := by
  go_enter Tryz.func38, Tryz.ntmps38
  go_wp2_with (go_at_call 72; refine (nodesMake_any _ p hp).mono ?_; rintro e w1 ⟨L, hL0, rfl, hR, hb, hown⟩)
  go_ret2
  have hsz := hb.size
  refine ⟨{ L with wb := w1.heap.size }, rfl, ?_, hb.more (below_alloc _ _), ?_⟩
  · refine ⟨(hR.below (below_alloc _ _)).wb _, ?_, ?_, ?_, ?_⟩
    · exact World.cell?_alloc_at _ _ _ _ rfl
    · exact World.cell?_alloc_at _ _ _ _ rfl
    · exact World.frozen?_alloc_at _ _ _ _ rfl
    · exact hR.free (Nat.le_refl _)
  · intro b t hbt
    unfold own2 at hbt
    split at hbt
    · rename_i e; rw [e]; exact hsz
    · exact hown b t hbt
set_option maxRecDepth 100000 in
set_option maxHeartbeats 1000000 in
theorem new_not (w : World) (p : Int) (h1 : ¬ (1 ≤ p ∧ p ≤ 5)) :
    Calls Tryz.prog 38 #[.int .i64 p] w fun e w' => e = .returned (.tuple #[.pointer none, .int .i64 1]) ∧ w' = w := by
  by_cases h : p < 1
  · go_enter Tryz.func38, Tryz.ntmps38
    go_wp2
    go_ret2
    exact ⟨rfl, rfl⟩
  · have h2 : 5 < p := by omega
    go_enter Tryz.func38, Tryz.ntmps38
    go_wp2
    go_ret2
    exact ⟨rfl, rfl⟩
end Go.Proofs.YtekbjlhbjcikdaaGreat
