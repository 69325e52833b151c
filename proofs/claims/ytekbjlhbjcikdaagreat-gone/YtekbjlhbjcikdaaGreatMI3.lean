/-
  Records$1: the iterator itself.
-/
import Derived.Test.YtekbjlhbjcikdaaGreatIM
import Derived.RangeFuncNested
import Derived.RangeFuncBound
import Derived.RangeFuncCalls
import Derived.RangeFuncLeaves
import Derived.Shelf.Abstract
import Derived.Shelf.RegionOpen
import Derived.WalkKit
import Derived.OwnWalkIn
import Derived.TacticsInMore
import Derived.LoopNIn
import Derived.LoopIn
namespace Go.Proofs.YtekbjlhbjcikdaaGreat
open Go.RowKit Go.Shelf Acc

/-- What the rounds keep: of the blocks from n₀ on, those that T does not name. -/
structure Kept (n₀ : Nat) (T : World → Nat → Prop) (W W' : World) : Prop where
  size : W.heap.size ≤ W'.heap.size
  keep : ∀ b c t z, n₀ ≤ b → W.heap[b]? = some (.cells c t z) → ¬ T W b → W'.heap[b]? = W.heap[b]? ∧ ¬ T W' b
theorem Kept.trans {n₀ : Nat} {T : World → Nat → Prop} {A B C : World} (h : Kept n₀ T A B) (k : Kept n₀ T B C) : Kept n₀ T A C :=
  ⟨Nat.le_trans h.size k.size, fun b c t z hb hc hT => by
    obtain ⟨e1, t1⟩ := h.keep b c t z hb hc hT
    obtain ⟨e2, t2⟩ := k.keep b c t z hb (e1.trans hc) t1
    exact ⟨e2.trans e1, t2⟩⟩

/-- All records, each with its node. -/
def _root_.Acc.St.recs (s : St) (k : Nat) : List (Nat × (Nat × Nat)) := (List.range k).flatMap fun i => (s.log i).map fun r => (i, r)
def recEnc (x : Nat × (Nat × Nat)) : Array Value := #[.int .i64 (x.1 : Int), .agg #[.int .i64 (x.2.1 : Int), .int .i64 (x.2.2 : Int)]]

/-- The blocks of the logs are none that the rounds may touch. -/
def Clear (T : World → Nat → Prop) (w : World) (lb k : Nat) (V : Nat → Sl) : Prop := ¬ T w lb ∧ ∀ i, i < k → ∀ a, (V i).a = some a → ¬ T w a.block

theorem cells_of_cell {w : World} {a : Addr} {v : Value} (h : w.cell? a = some v) : ∃ c t z, w.heap[a.block]? = some (.cells c t z) := by
  unfold World.cell? at h
  split at h
  · rename_i c t z e; exact ⟨_, _, _, e⟩
  · cases h

theorem LogsAt.kept {n₀ n1 lb : Nat} {T : World → Nat → Prop} {A B : World} {V : Nat → Sl} {s : St} (h : LogsAt A n1 lb (s.parts + 1) V s) (hn : n₀ ≤ lb) (hn1 : n₀ ≤ n1) (hc : Clear T A lb (s.parts + 1) V) (hk : Kept n₀ T A B) : LogsAt B n1 lb (s.parts + 1) V s ∧ Clear T B lb (s.parts + 1) V := by
  obtain ⟨c, t, z, e⟩ := cells_of_cell (h.1 0 (Nat.zero_le _))
  obtain ⟨k1, k2⟩ := hk.keep lb c t z hn e hc.1
  have hone : ∀ i, i < s.parts + 1 → ∀ a, (V i).a = some a → B.heap[a.block]? = A.heap[a.block]? ∧ ¬ T B a.block := by
    intro i hi a ha
    rcases (h.2.2 i hi).1.2 with ⟨hv, _⟩ | ⟨g, cap, cur, hv, h0, hg, _⟩
    · injection hv with e1 e2 e3; rw [e1] at ha; cases ha
    · injection hv with e1 e2 e3
      rw [e1] at ha
      injection ha with ha
      subst ha
      exact hk.keep g _ _ _ (Nat.le_trans hn1 h0) hg (hc.2 i hi _ e1)
  refine ⟨⟨fun i hi => (World.cell?_of_block (a := ⟨lb, i, none⟩) k1).trans (h.1 i hi), fun i => (World.frozen?_of_block (a := ⟨lb, i, none⟩) k1).trans (h.2.1 i), fun i hi => ⟨?_, (h.2.2 i hi).2⟩⟩, k2, fun i hi a ha => (hone i hi a ha).2⟩
  obtain ⟨hlen, hrow⟩ := (h.2.2 i hi).1
  refine ⟨hlen, ?_⟩
  rcases hrow with hh | ⟨g, cap, cur, hv, h0, hg, r⟩
  · exact .inl hh
  · refine .inr ⟨g, cap, cur, hv, h0, ?_, r⟩
    injection hv with e1 e2 e3
    exact (hone i hi _ e1).1.trans hg

theorem recCells_at {l : List (Nat × Nat)} {k : Nat} {r : Nat × Nat} (h : l[k]? = some r) : (recCells l)[k * 2]? = some (.int .i64 (r.1 : Int)) ∧ (recCells l)[k * 2 + 1]? = some (.int .i64 (r.2 : Int)) := by
  have := recCells_get l k r h
  rw [Nat.mul_comm] at this
  exact this

theorem _root_.Acc.St.recs_succ (s : St) (k : Nat) : s.recs (k + 1) = s.recs k ++ (s.log k).map fun r => (k, r) := by
  simp [St.recs, List.range_succ]

theorem take_succ_map {α β : Type} (f : α → β) (l : List α) (k : Nat) (r : α) (h : l[k]? = some r) : (l.take (k + 1)).map f = (l.take k).map f ++ [f r] := by
  rw [List.take_add_one, h]; simp

/-- What has come lies at the head of all that comes. -/
theorem _root_.Acc.St.recs_prefix (s : St) {j n k : Nat} (hj : j < n) : s.recs j ++ ((s.log j).take k).map (fun r => (j, r)) <+: s.recs n := by
  have h1 : s.recs j ++ ((s.log j).take k).map (fun r => (j, r)) <+: s.recs (j + 1) := by
    rw [St.recs_succ]
    refine List.prefix_append_right_inj _ |>.2 ?_
    exact (List.take_prefix _ _).map _
  have h2 : ∀ m, s.recs (j + 1) <+: s.recs (j + 1 + m) := by
    intro m
    induction m with
    | zero => exact List.prefix_refl _
    | succ m ih => exact ih.trans (by rw [← Nat.add_assoc, St.recs_succ s (j + 1 + m)]; exact List.prefix_append _ _)
  obtain ⟨m, rfl⟩ : ∃ m, n = j + 1 + m := ⟨n - (j + 1), by omega⟩
  exact h1.trans (h2 m)

set_option maxRecDepth 100000 in
set_option maxHeartbeats 2000000 in
theorem recIter {n l Bn n₀ : Nat} {T : World → Nat → Prop} {L : Lay} {s : St} {J Jx : List (Nat × (Nat × Nat)) → World → Prop} {W : World} (hn : 1 ≤ n) (h : RepW W L s) (hk : Ok s) (hBn : W.cell? ⟨Bn, 0, none⟩ = some (.pointer (some ⟨L.wb, 0, none⟩))) (hn0 : n₀ ≤ W.heap.size)
    (hT : ∀ b, W.heap.size ≤ b → ∀ W', Below W.heap.size W W' → ¬ T W' b) (hTb : ∀ A B b, W.heap.size ≤ A.heap.size → Below A.heap.size A B → ¬ T A b → ¬ T B b) (hJ : AbidesFrom W.heap.size J) (h0 : J [] W)
    (hY : ∀ pre x W1, J pre W1 → pre.length < (s.recs (s.parts + 1)).length → YieldAt Fence.wide (n - 1) Tryz.prog l (recEnc x) W1 fun e W' =>
      (e = .returned (.bool true) ∧ J (pre ++ [x]) W' ∧ Kept n₀ T W1 W') ∨ (e = .returned (.bool false) ∧ Jx (pre ++ [x]) W')) :
    CallsIn Fence.wide n Tryz.prog 62 #[.func (.yield l) #[] #[], .pointer (some ⟨Bn, 0, none⟩)] W fun e W' => (∃ v, e = .returned v) ∧
      ((∃ xs, xs = s.recs (s.parts + 1) ∧ J xs W') ∨ (∃ pre, pre <+: s.recs (s.parts + 1) ∧ Jx pre W')) := by
  have hp5 := hk.inv.p5
  have H24 := hide hk.inv.len
  have HC := hide (worldLogs_any h hk)
  refine callsIn_of_wp Tryz.func62 rfl trivial ?_ rfl
  simp only [Tryz.ntmps62, List.size_toArray, List.length_cons, List.length_nil, Nat.reduceAdd, Nat.reduceSub, Array.replicate_succ, Array.replicate_zero, List.push_toArray, List.append_toArray, List.nil_append, List.cons_append]
  gi_wp2
  refine ⟨trivial, (callsIn_wide.2 (unhide HC)).mono ?_⟩
  rintro e W1 ⟨V, rfl, hb1, hL⟩
  gi_wp2
  have hc1 : Clear T W1 W.heap.size (s.parts + 1) V := ⟨hT _ (Nat.le_refl _) W1 hb1, fun i hi a ha => by
    obtain ⟨_, hrow⟩ := (hL.2.2 i hi).1
    rcases hrow with ⟨hv, _⟩ | ⟨g, cap, cur, hv, h0, hg, r⟩
    · injection hv with e1 e2 e3; rw [e1] at ha; cases ha
    · injection hv with e1 e2 e3
      rw [e1] at ha
      injection ha with ha
      subst ha
      exact hT _ (by simp; omega) W1 hb1⟩
  have hJ1 : J [] W1 := hJ [] W W1 none h0 ⟨hb1.os, hb1.tape, hb1.output, hb1.size, fun k hk _ => hb1.block k hk⟩ (fun r e => by cases e)
  clear HC h hBn h0
  gi_loopw [10] (fun i wr => ∃ j : Nat, j ≤ s.parts + 1 ∧ i = .int .i64 (j : Int) ∧ J (s.recs j) wr ∧ LogsAt wr (W.heap.size + 1) W.heap.size (s.parts + 1) V s ∧ Clear T wr W.heap.size (s.parts + 1) V ∧ W.heap.size ≤ wr.heap.size) (fun i _ => s.parts + 1 - (intOf i).toNat)
  case atStart => exact ⟨0, Nat.zero_le _, rfl, hJ1, hL, hc1, hb1.size⟩
  case round =>
    obtain ⟨j, hj, rfl, hJj, hLj, hcj, hsz⟩ := hrel
    by_cases hjl : j < s.parts + 1
    · have hji : (j : Int) < (s.parts : Int) + 1 := by omega
      have q0 := hLj.1 j (by omega)
      rw [if_pos hjl] at q0
      obtain ⟨hrow, hlen⟩ := hLj.2.2 j hjl
      obtain ⟨a, c, hVj⟩ : ∃ a c, V j = ⟨a, (s.log j).length, c⟩ := ⟨(V j).a, (V j).cap, by rw [← hlen]⟩
      rw [hVj] at q0
      have HV := hide hVj
      clear hrow hlen hVj
      generalize hm : (s.log j).length = m at q0
      have hm24 : m ≤ 24 := by rw [← hm]; exact unhide H24 j
      have HM := hide hm
      clear hm
      gi_wp2
      gi_loopw [17] (fun i wr => ∃ k : Nat, k ≤ m ∧ i = .int .i64 (k : Int) ∧ J (s.recs j ++ ((s.log j).take k).map fun r => (j, r)) wr ∧ LogsAt wr (W.heap.size + 1) W.heap.size (s.parts + 1) V s ∧ Clear T wr W.heap.size (s.parts + 1) V ∧ W.heap.size ≤ wr.heap.size) (fun i _ => m - (intOf i).toNat)
      case atStart => exact ⟨0, Nat.zero_le _, rfl, by simpa using hJj, hLj, hcj, hsz⟩
      case round =>
        obtain ⟨k, hk, rfl, hJk, hLk, hck, hszk⟩ := hrel
        by_cases hkl : k < m
        · have hki : (k : Int) < (m : Int) := by omega
          have hrow := (hLk.2.2 j hjl).1
          rw [unhide HV, unhide HM] at hrow
          obtain ⟨g, e1, hmc, hz, hcell⟩ := Owns.at (e := 43) (size := 2) (s := ⟨a, m, c⟩) (Owns.of_row (ownsRow_mono hrow (Nat.zero_le _))) (by simp; omega)
          dsimp only at e1 hmc
          subst e1
          have hkr : k < (s.log j).length := by rw [unhide HM]; exact hkl
          obtain ⟨r, hr⟩ : ∃ r, (s.log j)[k]? = some r := ⟨_, List.getElem?_eq_getElem hkr⟩
          have p0 : wr.cell? ⟨g, k * 2, none⟩ = some (.int .i64 (r.1 : Int)) := hcell _ _ (recCells_at hr).1
          have p1 : wr.cell? ⟨g, k * 2 + 1, none⟩ = some (.int .i64 (r.2 : Int)) := hcell _ _ (recCells_at hr).2
          have hin : (s.recs j ++ ((s.log j).take (k + 1)).map fun r => (j, r)) <+: s.recs (s.parts + 1) := s.recs_prefix hjl
          rw [take_succ_map _ _ _ _ hr, ← List.append_assoc] at hin
          have hlt : (s.recs j ++ ((s.log j).take k).map fun r => (j, r)).length < (s.recs (s.parts + 1)).length := by
            have := hin.length_le
            simp at this ⊢
            omega
          have hJa := hJ _ wr (wr.alloc (.cells #[.int .i64 (r.1 : Int), .int .i64 (r.2 : Int)] 43)) none hJk (World.grownBy_alloc wr _ none) (fun r e => by cases e)
          obtain ⟨fn, tmps, assign, body, hy, hR⟩ := hY _ (j, r) _ hJa hlt
          dsimp only [recEnc] at hy
          have HR := hide hR
          clear hR
          gi_wp2
          refine (unhide HR).mono ?_
          rintro e W3 (⟨rfl, hJ3, hk3⟩ | ⟨rfl, hJx3⟩)
          · have hba := below_alloc wr (Obj.cells #[.int .i64 (r.1 : Int), .int .i64 (r.2 : Int)] 43)
            have hka : Kept n₀ T wr W3 := Kept.trans ⟨hba.size, fun b c t z _ hb hT => ⟨hba.block b (Array.getElem?_eq_some_iff.1 hb).1, hTb _ _ b hszk hba hT⟩⟩ hk3
            obtain ⟨hL3, hc3⟩ := hLk.kept hn0 (by omega) hck hka
            have hs3 := hka.size
            gi_wp2
            go_roundw
            case rel => exact ⟨k + 1, by omega, by go_num, by rw [take_succ_map _ _ _ _ hr, ← List.append_assoc]; exact hJ3, hL3, hc3, by omega⟩
            case measure => simp [intOf]; omega
          · gi_wp2
            refine bodyPost_ret (results_none rfl _ _ _) rfl ?_
            exact ⟨⟨_, rfl⟩, .inr ⟨_, hin, hJx3⟩⟩
        · have hki : ¬ (k : Int) < (m : Int) := by omega
          obtain rfl : k = m := by omega
          gi_wp2
          refine ⟨⟨j + 1, by omega, by go_num, ?_, hLk, hck, hszk⟩, by simp [intOf]; omega⟩
          rw [St.recs_succ]
          rw [List.take_of_length_le (by rw [unhide HM]; exact Nat.le_refl _)] at hJk
          exact hJk
    · gi_wp2
      go_end0
      obtain rfl : j = s.parts + 1 := by omega
      exact ⟨⟨_, rfl⟩, .inl ⟨_, rfl, hJj⟩⟩

/-- What the iterator does, for whatever loop body. -/
theorem rec_stops {n Bn n₀ : Nat} {T : World → Nat → Prop} {L : Lay} {s : St} {w : World} (hn : 1 ≤ n) (h : RepW w L s) (hk : Ok s) (hBn : w.cell? ⟨Bn, 0, none⟩ = some (.pointer (some ⟨L.wb, 0, none⟩))) (hn0 : n₀ ≤ w.heap.size)
    (hT : ∀ b, w.heap.size ≤ b → ∀ W', Below w.heap.size w W' → ¬ T W' b) (hTb : ∀ A B b, w.heap.size ≤ A.heap.size → Below A.heap.size A B → ¬ T A b → ¬ T B b) :
    SeqStopsK Fence.wide n Tryz.prog 62 #[.pointer (some ⟨Bn, 0, none⟩)] recEnc (Kept n₀ T) (fun xs => xs = s.recs (s.parts + 1)) (fun pre => pre <+: s.recs (s.parts + 1)) (s.recs (s.parts + 1)).length w := fun _ _ _ _ hW hJ _ hY h0 =>
  recIter hn (h.below hW) hk ((hW.cell (p := ⟨Bn, 0, none⟩) (World.block_lt_of_cell? w _ hBn)).trans hBn) (Nat.le_trans hn0 hW.size) (fun b hb W' hb' => hT b (Nat.le_trans hW.size hb) W' (hW.trans (hb'.mono hW.size)))
    (fun A B b hA => hTb A B b (Nat.le_trans hW.size hA)) hJ h0 hY
end Go.Proofs.YtekbjlhbjcikdaaGreat
