/-
  Walks of receive and Deliver.
-/
import Derived.Test.YtckmknofciejeaaW13
import Derived.Laws.EntriesVeiled
namespace Go.Proofs.Ytckmknofciejeaa
open Go.RowKit Acc

set_option maxRecDepth 100000 in
set_option maxHeartbeats 2000000 in
theorem nodesReceive_any {w : World} {L : Lay} {s : St} (h : Rep w L s) (hf : Wf s) (hs : Sm s) (m : Msg) (hm : MOk s m) (hk : 1 ≤ m.kind ∧ m.kind ≤ 6) :
    Calls Try.prog 39 #[.pointer (some ⟨L.nb, 0, none⟩), .agg #[.int .i64 m.kind, .int .i64 m.frm, .int .i64 m.to, .int .i64 m.trans]] w fun e w' => e = .returned (.tuple #[]) ∧ Leaves L w (s.receive m) w' := by
  obtain ⟨kind, frm, to, trans⟩ := m
  simp only at hk
  have hb : ∀ o o', Below w.heap.size w (((w.alloc o).alloc o').drew) := fun o o' => ((below_alloc _ _).more (below_alloc _ _)).drew
  have HB := hide hb
  clear hb
  have hk6 : kind = 1 ∨ kind = 2 ∨ kind = 3 ∨ kind = 4 ∨ kind = 5 ∨ kind = 6 := by omega
  clear hk
  rcases hk6 with rfl | rfl | rfl | rfl | rfl | rfl
  · have hv := fun o o' => nodesPrepare_any (h.below (unhide HB o o')) hf _ hm
    have HV := hide hv
    clear hv
    go_enter Try.func39, Try.ntmps39
    go_wp2_with fail
    go_region_with (go_at_call 53; refine (unhide HV _ _).mono ?_; rintro e w5 ⟨rfl, hl⟩)
    all_goals
      go_end0
      exact ⟨rfl, hl.below (unhide HB _ _)⟩
  · have hv := fun o o' => nodesYes_any (h.below (unhide HB o o')) hf hs _ hm
    have HV := hide hv
    clear hv
    go_enter Try.func39, Try.ntmps39
    go_wp2_with fail
    go_region_with (go_at_call 54; refine (unhide HV _ _).mono ?_; rintro e w5 ⟨rfl, hl⟩)
    all_goals
      go_end0
      exact ⟨rfl, hl.below (unhide HB _ _)⟩
  · have hv := fun o o' => nodesNo_any (h.below (unhide HB o o')) hf hs _ hm
    have HV := hide hv
    clear hv
    go_enter Try.func39, Try.ntmps39
    go_wp2_with fail
    go_region_with (go_at_call 55; refine (unhide HV _ _).mono ?_; rintro e w5 ⟨rfl, hl⟩)
    all_goals
      go_end0
      exact ⟨rfl, hl.below (unhide HB _ _)⟩
  · have hv := fun o o' => nodesCommit_any (h.below (unhide HB o o')) hf _ hm
    have HV := hide hv
    clear hv
    go_enter Try.func39, Try.ntmps39
    go_wp2_with fail
    go_region_with (go_at_call 56; refine (unhide HV _ _).mono ?_; rintro e w5 ⟨rfl, hl⟩)
    all_goals
      go_end0
      exact ⟨rfl, hl.below (unhide HB _ _)⟩
  · have hv := fun o o' => nodesAbort_any (h.below (unhide HB o o')) hf _ hm
    have HV := hide hv
    clear hv
    go_enter Try.func39, Try.ntmps39
    go_wp2_with fail
    go_region_with (go_at_call 57; refine (unhide HV _ _).mono ?_; rintro e w5 ⟨rfl, hl⟩)
    all_goals
      go_end0
      exact ⟨rfl, hl.below (unhide HB _ _)⟩
  · have hv := fun o o' => nodesAsk_any (h.below (unhide HB o o')) hf _ hm
    have HV := hide hv
    clear hv
    go_enter Try.func39, Try.ntmps39
    go_wp2_with fail
    go_region_with (go_at_call 58; refine (unhide HV _ _).mono ?_; rintro e w5 ⟨rfl, hl⟩)
    all_goals
      go_end0
      exact ⟨rfl, hl.below (unhide HB _ _)⟩

/-- What a message is: of a kind, between nodes that there are, of a transaction that there is. -/
structure Good (s : St) : Prop where
  fl : s.fly.length ≤ 60
  ok : ∀ m, m ∈ s.fly → MOk s m ∧ 1 ≤ m.kind ∧ m.kind ≤ 6

set_option maxRecDepth 100000 in
set_option maxHeartbeats 1000000 in
theorem nodesDeliver_any {w : World} {L : Lay} {s : St} (h : Rep w L s) (hf : Wf s) (hs : Sm s) (hg : Good s) (i : Nat) (hi : i < s.fly.length) :
    Calls Try.prog 23 #[.pointer (some ⟨L.nb, 0, none⟩), .int .i64 i] w fun e w' => e = .returned (.tuple #[]) ∧ Leaves L w (s.deliver i) w' := by
  have hx : s.fly[i]? = some s.fly[i] := List.getElem?_eq_getElem _
  generalize s.fly[i] = m at hx
  obtain ⟨hm, hk⟩ := hg.ok m (List.mem_of_getElem? hx)
  have hd : s.deliver i = ({ s with fly := s.fly.eraseIdx i } : St).receive m := by simp [St.deliver, hx]
  rw [hd]
  have ht := hide (mailTake_any h hg.fl i m hx)
  clear hd hx
  go_enter Try.func23, Try.ntmps23
  go_wp2_with fail
  refine (unhide ht).mono ?_
  rintro e w1 ⟨rfl, L1, e1, e2, hR1, hE1⟩
  have hr := nodesReceive_any hR1 ⟨hf.p1, hf.p5, hf.d12, hf.w6, hf.ll, hf.lt⟩ (fun n hn => hs n hn) m ⟨hm.to, hm.frm, hm.t1, hm.t2⟩ hk
  rw [e2] at hr
  have HR := hide hr
  have E := hide (And.intro e1 e2)
  clear hr e1 e2
  go_wp2_with fail
  refine (unhide HR).mono ?_
  rintro e w2 ⟨rfl, hl⟩
  go_wp2
  go_end0
  exact ⟨rfl, Leaves.trans (unhide E).1 (unhide E).2 hE1 hl⟩
end Go.Proofs.Ytckmknofciejeaa
