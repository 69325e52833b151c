/-
  Walks of receive, Deliver, Drop and Double.
-/
import Derived.Test.YtekbjlhbjcikdaaGreatW13
import Derived.Test.YtekbjlhbjcikdaaGreatSaf3
import Derived.Laws.EntriesVeiled
import Derived.RegionDies
namespace Go.Proofs.YtekbjlhbjcikdaaGreat
open Go.RowKit Acc

theorem recv_not {s : St} {m : Msg} (h : m.kind ≠ 2) : s.recv m = s.does m.to (s.acts m) := by
  unfold St.recv St.heard; rw [if_neg (fun e => h e.1)]
theorem recv_two {s : St} {m : Msg} (h : m.kind = 2) (h0 : m.to = 0) : s.recv m = yesR s m := by
  unfold St.recv St.heard yesR
  by_cases h1 : s.state m.to m.trans = 1
  · rw [if_pos ⟨h, h1⟩, if_pos h1]
    have e : (s.note m.trans m.frm).state m.to m.trans = 1 := h1
    unfold St.acts
    rw [h]
    simp only [e, true_and]
    split
    · rw [h0]
    · rfl
  · rw [if_neg (fun e => h1 e.2), if_neg h1]
    unfold St.acts
    rw [h]
    simp only [h1, false_and, if_false]
    rfl

set_option maxRecDepth 100000 in
set_option maxHeartbeats 2000000 in
theorem nodesReceive_any {w : World} {L : Lay} {s : St} (h : Rep w L s) (hf : Wf s) (hs : Sm s) (m : Msg) (hm : MOk s m) (hk : 1 ≤ m.kind ∧ m.kind ≤ 6) (h0 : m.kind = 2 ∨ m.kind = 3 → m.to = 0) :
    Calls Tryz.prog 97 #[.pointer (some ⟨L.nb, 0, none⟩), .agg #[.int .i64 m.kind, .int .i64 m.frm, .int .i64 m.to, .int .i64 m.trans]] w (Acts L w m.to (s.recv m)) := by
  obtain ⟨kind, frm, to, trans⟩ := m
  simp only at hk h0
  have hb : ∀ o o', Below w.heap.size w (((w.alloc o).alloc o').drew) := fun o o' => ((below_alloc _ _).more (below_alloc _ _)).drew
  have HB := hide hb
  clear hb
  have H0 := hide h0
  clear h0
  have hk6 : kind = 1 ∨ kind = 2 ∨ kind = 3 ∨ kind = 4 ∨ kind = 5 ∨ kind = 6 := by omega
  clear hk
  rcases hk6 with rfl | rfl | rfl | rfl | rfl | rfl
  · have HRC := hide (recv_not (s := s) (m := ⟨1, frm, to, trans⟩) (by simp))
    have hv := fun o o' => nodesPrepare_any (h.below (unhide HB o o')) hf hs _ hm
    have HV := hide hv
    clear hv
    go_enter Tryz.func97, Tryz.ntmps97
    go_wp2_with fail
    go_region_dies
    all_goals
      rename_i K hK
      refine (unhide HV _ _).mono ?_
      intro e w5 ha
      have ha2 := ha.below (unhide HB _ _)
      rcases ha.cases with ⟨hr, rfl, hl⟩ | ⟨hr, rfl, hl⟩
      · refine hK _ _ ?_
        refine wpAny_done (by kernel_rfl) ?_ _
        go_end0
        rw [unhide HRC]
        exact ha2
      · refine ⟨rfl, ?_⟩
        rw [unhide HRC]
        exact ha2
  · have ht : to = 0 := unhide H0 (by simp)
    subst ht
    have HRC := hide (recv_two (s := s) (m := ⟨2, frm, 0, trans⟩) rfl rfl)
    have hv := fun o o' => nodesYes_any (h.below (unhide HB o o')) hf hs _ hm
    have HV := hide hv
    clear hv
    go_enter Tryz.func97, Tryz.ntmps97
    go_wp2_with fail
    go_region_dies
    all_goals
      rename_i K hK
      refine (unhide HV _ _).mono ?_
      intro e w5 ha
      have ha2 := ha.below (unhide HB _ _)
      rcases ha.cases with ⟨hr, rfl, hl⟩ | ⟨hr, rfl, hl⟩
      · refine hK _ _ ?_
        refine wpAny_done (by kernel_rfl) ?_ _
        go_end0
        rw [unhide HRC]
        exact ha2
      · refine ⟨rfl, ?_⟩
        rw [unhide HRC]
        exact ha2
  · have ht : to = 0 := unhide H0 (by simp)
    subst ht
    have HRC := hide (recv_not (s := s) (m := ⟨3, frm, 0, trans⟩) (by simp))
    have hv := fun o o' => nodesNo_any (h.below (unhide HB o o')) hf hs _ hm rfl
    have HV := hide hv
    clear hv
    go_enter Tryz.func97, Tryz.ntmps97
    go_wp2_with fail
    go_region_dies
    all_goals
      rename_i K hK
      refine (unhide HV _ _).mono ?_
      intro e w5 ha
      have ha2 := ha.below (unhide HB _ _)
      rcases ha.cases with ⟨hr, rfl, hl⟩ | ⟨hr, rfl, hl⟩
      · refine hK _ _ ?_
        refine wpAny_done (by kernel_rfl) ?_ _
        go_end0
        rw [unhide HRC]
        exact ha2
      · refine ⟨rfl, ?_⟩
        rw [unhide HRC]
        exact ha2
  · have HRC := hide (recv_not (s := s) (m := ⟨4, frm, to, trans⟩) (by simp))
    have hv := fun o o' => nodesCommit_any (h.below (unhide HB o o')) hf hs _ hm
    have HV := hide hv
    clear hv
    go_enter Tryz.func97, Tryz.ntmps97
    go_wp2_with fail
    go_region_dies
    all_goals
      rename_i K hK
      refine (unhide HV _ _).mono ?_
      intro e w5 ha
      have ha2 := ha.below (unhide HB _ _)
      rcases ha.cases with ⟨hr, rfl, hl⟩ | ⟨hr, rfl, hl⟩
      · refine hK _ _ ?_
        refine wpAny_done (by kernel_rfl) ?_ _
        go_end0
        rw [unhide HRC]
        exact ha2
      · refine ⟨rfl, ?_⟩
        rw [unhide HRC]
        exact ha2
  · have HRC := hide (recv_not (s := s) (m := ⟨5, frm, to, trans⟩) (by simp))
    have hv := fun o o' => nodesAbort_any (h.below (unhide HB o o')) hf hs _ hm
    have HV := hide hv
    clear hv
    go_enter Tryz.func97, Tryz.ntmps97
    go_wp2_with fail
    go_region_dies
    all_goals
      rename_i K hK
      refine (unhide HV _ _).mono ?_
      intro e w5 ha
      have ha2 := ha.below (unhide HB _ _)
      rcases ha.cases with ⟨hr, rfl, hl⟩ | ⟨hr, rfl, hl⟩
      · refine hK _ _ ?_
        refine wpAny_done (by kernel_rfl) ?_ _
        go_end0
        rw [unhide HRC]
        exact ha2
      · refine ⟨rfl, ?_⟩
        rw [unhide HRC]
        exact ha2
  · have HRC := hide (recv_not (s := s) (m := ⟨6, frm, to, trans⟩) (by simp))
    have hv := fun o o' => nodesAsk_any (h.below (unhide HB o o')) hf hs _ hm
    have HV := hide hv
    clear hv
    go_enter Tryz.func97, Tryz.ntmps97
    go_wp2_with fail
    go_region_dies
    all_goals
      rename_i K hK
      refine (unhide HV _ _).mono ?_
      intro e w5 ha
      have ha2 := ha.below (unhide HB _ _)
      rcases ha.cases with ⟨hr, rfl, hl⟩ | ⟨hr, rfl, hl⟩
      · refine hK _ _ ?_
        refine wpAny_done (by kernel_rfl) ?_ _
        go_end0
        rw [unhide HRC]
        exact ha2
      · refine ⟨rfl, ?_⟩
        rw [unhide HRC]
        exact ha2

end Go.Proofs.YtekbjlhbjcikdaaGreat
