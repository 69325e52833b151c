/-
  Walks of the functions of package nodes that only read: Holder, clashes, and the small ones.
-/
import Derived.Test.YtekbjlhbjcikdaaGreatW4
import Derived.Test.YtekbjlhbjcikdaaGreatLaws
namespace Go.Proofs.YtekbjlhbjcikdaaGreat
open Go.RowKit Acc

set_option maxRecDepth 100000 in
set_option maxHeartbeats 1000000 in
theorem nodesHolder_any {w : World} {L : Lay} {s : St} (h : Rep w L s) (hf : Wf s) (p : Nat) (k : Int) (hp : p ≤ s.parts) :
    Calls Tryz.prog 58 #[.pointer (some ⟨L.nb, 0, none⟩), .int .i64 p, .int .i64 k] w fun e w' => e = .returned (.int .i64 (s.holder p k)) ∧ Below w.heap.size w w' := by
  have hp5 := hf.p5
  have h12 := hf.d12
  have HD := hide (by have := h.od.len; rw [slCells_length] at this; omega : L.dv.n = s.deals.length)
  have hdn : L.dv.n ≤ 12 := by rw [unhide HD]; exact h12
  clear h12
  go_enter Tryz.func58, Tryz.ntmps58
  go_wp2
  go_loopw [7] (fun i wr => ∃ j : Nat, j ≤ L.dv.n ∧ i = .int .i64 ((j : Int) + 1) ∧ Below w.heap.size w wr ∧ Hid (s.holder p k = holdFrom s p k (L.dv.n - j) (j + 1))) (fun i _ => (13 - intOf i).toNat)
  case atStart => exact ⟨0, Nat.zero_le _, rfl, Below.refl _ _, by show _ = _; rw [unhide HD]; rfl⟩
  case round =>
    obtain ⟨j, hj, rfl, hb, hv⟩ := hrel
    have hR := h.below hb
    have c1 := hR.c1
    by_cases hlt : j < L.dv.n
    · have hst : holdFrom s p k (L.dv.n - j) (j + 1) = if s.holds p k (j + 1) then j + 1 else holdFrom s p k (L.dv.n - (j + 1)) (j + 1 + 1) := by
        rw [show L.dv.n - j = (L.dv.n - (j + 1)) + 1 from by omega]; rfl
      have HS := hide hst
      clear hst
      go_wp2_with fail
      rw [show ((j : Int) + 1) = ((j + 1 : Nat) : Int) from by omega]
      refine (nodesState_any hR p (j + 1) hp hp5 (hf.ll p hp)).mono ?_
      rintro e w1 ⟨rfl, rfl⟩
      by_cases hs2 : s.state p (j + 1) = 2
      · have hs : ((s.state p (j + 1) : Int) != 2) = false := by rw [hs2]; rfl
        have HS2 := hide hs2
        clear hs2
        go_wp2_with fail
        refine (nodesDeal_any hR (j + 1) (by omega) (by rw [← unhide HD]; omega) hf.d12).mono ?_
        rintro e w2 ⟨rfl, hb2⟩
        obtain ⟨hn1, hw1⟩ := (hR.below hb2).deal (j + 1) (by omega) (by rw [← unhide HD]; omega)
        have hw6 := hf.deal (j + 1)
        have HN1 := hide hn1
        clear hn1
        go_wp2_with fail
        refine (dealValue_any _ _ _ (s.deal (j + 1)) p k _ (unhide HN1).symm (by rw [unhide HN1]; omega) hw1).mono ?_
        rintro e w3 ⟨rfl, hb3⟩
        have hb4 : Below w.heap.size w w3 := (hb.more hb2).more hb3
        cases hfw : findW (s.deal (j + 1)) p k with
        | none =>
          have HW := hide hfw
          clear hfw hw6
          go_wp2
          refine ⟨⟨j + 1, by omega, by go_num, hb4, ?_⟩, by simp [intOf]; omega⟩
          show _ = _
          rw [hv.out, unhide HS, if_neg (by simp [St.holds, unhide HW])]
        | some v =>
          have HW := hide hfw
          clear hfw hw6
          go_wp2
          go_ret
          refine ⟨?_, hb4⟩
          rw [hv.out, unhide HS, if_pos (by simp [St.holds, unhide HW, unhide HS2])]; rfl
      · have hs : ((s.state p (j + 1) : Int) != 2) = true := by rw [bne_iff_ne]; omega
        have HS2 := hide hs2
        clear hs2
        go_wp2
        refine ⟨⟨j + 1, by omega, by go_num, hb, ?_⟩, by simp [intOf]; omega⟩
        show _ = _
        rw [hv.out, unhide HS, if_neg (by simp [St.holds, unhide HS2])]
    · have hz : holdFrom s p k (L.dv.n - j) (j + 1) = 0 := by rw [show L.dv.n - j = 0 from by omega]; rfl
      have HZ := hide hz
      clear hz
      go_wp2
      go_ret
      exact ⟨by rw [hv.out, unhide HZ]; rfl, hb⟩

set_option maxRecDepth 100000 in
set_option maxHeartbeats 1000000 in
theorem nodesClashes_any {w : World} {L : Lay} {s : St} (h : Rep w L s) (hf : Wf s) (p t : Nat) (hp : p ≤ s.parts) (ht : 1 ≤ t) (ht' : t ≤ s.deals.length) :
    Calls Tryz.prog 176 #[.pointer (some ⟨L.nb, 0, none⟩), .int .i64 p, .int .i64 t] w fun e w' => e = .returned (.bool (s.clashes p t)) ∧ Below w.heap.size w w' := by
  go_enter Tryz.func176, Tryz.ntmps176
  go_wp2
  go_loopw [10] (fun i wr => ∃ j : Nat, j ≤ 4 ∧ i = .int .i64 j ∧ Below w.heap.size w wr ∧ Hid (clashTo s p t j = false)) (fun i _ => (4 - intOf i).toNat)
  case atStart => exact ⟨0, Nat.zero_le _, rfl, Below.refl _ _, rfl⟩
  case round =>
    obtain ⟨j, hj, rfl, hb, hv⟩ := hrel
    have hR := h.below hb
    by_cases hlt : j < 4
    · have hst : clashTo s p t (j + 1) = (clashTo s p t j || ((findW (s.deal t) p j).isSome && decide (s.holder p j ≠ 0))) := rfl
      rw [hv.out, Bool.false_or] at hst
      have HS := hide hst
      clear hst
      go_wp2_with fail
      refine (nodesDeal_any hR t ht ht' hf.d12).mono ?_
      rintro e w2 ⟨rfl, hb2⟩
      obtain ⟨hn1, hw1⟩ := (hR.below hb2).deal t ht ht'
      have hw6 := hf.deal t
      have HN1 := hide hn1
      clear hn1
      go_wp2_with fail
      refine (dealValue_any _ _ _ (s.deal t) p j _ (unhide HN1).symm (by rw [unhide HN1]; omega) hw1).mono ?_
      rintro e w3 ⟨rfl, hb3⟩
      have hb4 : Below w.heap.size w w3 := (hb.more hb2).more hb3
      cases hfw : findW (s.deal t) p j with
      | none =>
        have HW := hide hfw
        clear hfw hw6
        go_wp2
        refine ⟨⟨j + 1, by omega, by go_num, hb4, ?_⟩, by simp [intOf]; omega⟩
        show _ = _
        rw [unhide HS, unhide HW]; rfl
      | some v =>
        have HW := hide hfw
        clear hfw hw6
        go_wp2_with fail
        refine (nodesHolder_any (h.below hb4) hf p j hp).mono ?_
        rintro e w5 ⟨rfl, hb5⟩
        have hb6 : Below w.heap.size w w5 := hb4.more hb5
        by_cases h0 : s.holder p j = 0
        · have hs : ((s.holder p j : Int) != 0) = false := by rw [h0]; rfl
          have H0 := hide h0
          clear h0
          go_wp2
          refine ⟨⟨j + 1, by omega, by go_num, hb6, ?_⟩, by simp [intOf]; omega⟩
          show _ = _
          rw [unhide HS, unhide HW, unhide H0]; rfl
        · have hs : ((s.holder p j : Int) != 0) = true := by rw [bne_iff_ne]; omega
          have H0 := hide h0
          clear h0
          have HC : Hid (s.clashes p t = true) := by
            show _ = _
            have hmono : ∀ m, j + 1 ≤ m → clashTo s p t m = true := by
              intro m hm
              induction m with
              | zero => omega
              | succ m ih =>
                by_cases hmj : j + 1 ≤ m
                · simp [clashTo, ih hmj]
                · have : m = j := by omega
                  subst this
                  rw [unhide HS, unhide HW]; simpa using unhide H0
            exact hmono 4 (by omega)
          go_wp2
          go_ret
          exact ⟨by rw [unhide HC]; rfl, hb6⟩
    · have hj4 : j = 4 := by omega
      subst hj4
      have HC : Hid (s.clashes p t = false) := hv.out
      go_wp2
      go_ret
      exact ⟨by rw [unhide HC]; rfl, hb⟩

set_option maxRecDepth 100000 in
set_option maxHeartbeats 1000000 in
theorem nodesHas_any {w : World} {L : Lay} {s : St} (h : Rep w L s) (hf : Wf s) (p : Int) :
    Calls Tryz.prog 47 #[.pointer (some ⟨L.nb, 0, none⟩), .int .i64 p] w fun e w' => e = .returned (.bool (decide (0 ≤ p) && decide (p < s.parts + 1))) ∧ w' = w := by
  have c0 := h.c0
  have hp5 := hf.p5
  by_cases h0 : 0 ≤ p
  · go_enter Tryz.func47, Tryz.ntmps47
    go_wp2
    go_ret
    exact ⟨by simp [h0], rfl⟩
  · go_enter Tryz.func47, Tryz.ntmps47
    go_wp2
    go_ret
    exact ⟨by simp; omega, rfl⟩

set_option maxRecDepth 100000 in
set_option maxHeartbeats 1000000 in
theorem nodesHasTrans_any {w : World} {L : Lay} {s : St} (h : Rep w L s) (hf : Wf s) (t : Int) :
    Calls Tryz.prog 49 #[.pointer (some ⟨L.nb, 0, none⟩), .int .i64 t] w fun e w' => e = .returned (.bool (decide (1 ≤ t) && decide (t ≤ s.deals.length))) ∧ w' = w := by
  have c1 := h.c1
  have h12 := hf.d12
  have HD := hide (by have := h.od.len; rw [slCells_length] at this; omega : L.dv.n = s.deals.length)
  have hdn : L.dv.n ≤ 12 := by rw [unhide HD]; exact h12
  clear h12
  rw [← unhide HD]
  by_cases h0 : 1 ≤ t
  · go_enter Tryz.func49, Tryz.ntmps49
    go_wp2
    go_ret
    exact ⟨by simp [h0], rfl⟩
  · go_enter Tryz.func49, Tryz.ntmps49
    go_wp2
    go_ret
    exact ⟨by simp; omega, rfl⟩

set_option maxRecDepth 100000 in
set_option maxHeartbeats 1000000 in
theorem nodesParts_any {w : World} {L : Lay} {s : St} (h : Rep w L s) (hf : Wf s) :
    Calls Tryz.prog 76 #[.pointer (some ⟨L.nb, 0, none⟩)] w fun e w' => e = .returned (.int .i64 s.parts) ∧ w' = w := by
  have c0 := h.c0
  have hp5 := hf.p5
  go_enter Tryz.func76, Tryz.ntmps76
  go_wp2
  go_ret
  exact ⟨by simp, rfl⟩

set_option maxRecDepth 100000 in
set_option maxHeartbeats 1000000 in
theorem nodesFull_any {w : World} {L : Lay} {s : St} (h : Rep w L s) (hf : Wf s) :
    Calls Tryz.prog 77 #[.pointer (some ⟨L.nb, 0, none⟩)] w fun e w' => e = .returned (.bool (decide (12 ≤ s.deals.length))) ∧ w' = w := by
  have c1 := h.c1
  have h12 := hf.d12
  have HD := hide (by have := h.od.len; rw [slCells_length] at this; omega : L.dv.n = s.deals.length)
  have hdn : L.dv.n ≤ 12 := by rw [unhide HD]; exact h12
  clear h12
  rw [← unhide HD]
  go_enter Tryz.func77, Tryz.ntmps77
  go_wp2
  go_ret
  exact ⟨by simp; omega, rfl⟩

set_option maxRecDepth 100000 in
set_option maxHeartbeats 1000000 in
theorem nodesHasKey_any {w : World} {L : Lay} {s : St} (h : Rep w L s) (hf : Wf s) (p k : Int) :
    Calls Tryz.prog 57 #[.pointer (some ⟨L.nb, 0, none⟩), .int .i64 p, .int .i64 k] w fun e w' => e = .returned (.bool (decide (1 ≤ p) && decide (p < s.parts + 1) && (decide (0 ≤ k) && decide (k < 4)))) ∧ w' = w := by
  by_cases h0 : (decide (0 ≤ p) && decide (p < s.parts + 1)) = true
  · have H0 := hide h0
    by_cases h1 : p = 0
    · have hs : (p != 0) = false := by rw [h1]; rfl
      have H1 := hide h1
      clear h0 h1
      go_enter Tryz.func57, Tryz.ntmps57
      go_wp2_with (go_at_call 47; refine (nodesHas_any h hf p).mono ?_; rintro e w1 ⟨rfl, rfl⟩; rw [unhide H0])
      go_ret
      exact ⟨by rw [unhide H1]; simp, rfl⟩
    · have hs : (p != 0) = true := by rw [bne_iff_ne]; exact h1
      have H1 := hide h1
      clear h0 h1
      go_enter Tryz.func57, Tryz.ntmps57
      go_wp2_with (first
        | (go_at_call 47; refine (nodesHas_any h hf p).mono ?_; rintro e w1 ⟨rfl, rfl⟩; rw [unhide H0])
        | (go_at_call 89; refine (isKey_any k _).mono ?_; rintro e w1 ⟨rfl, rfl⟩))
      go_ret
      refine ⟨?_, rfl⟩
      have h0 := unhide H0
      have h1 := unhide H1
      simp at h0
      have : decide (1 ≤ p) = true := by simp; omega
      have h2 : decide (p < (s.parts : Int) + 1) = true := by simpa using h0.2
      rw [this, h2]; simp
  · have h0' : (decide (0 ≤ p) && decide (p < s.parts + 1)) = false := by simpa using h0
    have H0 := hide h0'
    clear h0 h0'
    go_enter Tryz.func57, Tryz.ntmps57
    go_wp2_with (go_at_call 47; refine (nodesHas_any h hf p).mono ?_; rintro e w1 ⟨rfl, rfl⟩; rw [unhide H0])
    go_ret
    refine ⟨?_, rfl⟩
    have h0 := unhide H0
    have : (decide (1 ≤ p) && decide (p < (s.parts : Int) + 1)) = false := by
      simp at h0 ⊢
      intro h1; exact h0 (by omega)
    rw [this]; simp

set_option maxRecDepth 100000 in
set_option maxHeartbeats 1000000 in
theorem mailHas_any {w : World} {L : Lay} {s : St} (h : Rep w L s) (hfl : s.fly.length ≤ 60) (i : Int) :
    Calls Tryz.prog 132 #[.pointer (some ⟨L.nb, 80, none⟩), .int .i64 i] w fun e w' => e = .returned (.bool (decide (0 ≤ i) && decide (i < s.fly.length))) ∧ w' = w := by
  have cf := h.cf
  have HD := hide (by have := h.om.len; rw [msgCells_length] at this; omega : L.fv.n = s.fly.length)
  have hdn : L.fv.n ≤ 60 := by rw [unhide HD]; exact hfl
  clear hfl
  rw [← unhide HD]
  by_cases h0 : 0 ≤ i
  · go_enter Tryz.func132, Tryz.ntmps132
    go_wp2
    go_ret
    exact ⟨by simp [h0], rfl⟩
  · go_enter Tryz.func132, Tryz.ntmps132
    go_wp2
    go_ret
    exact ⟨by simp; omega, rfl⟩

set_option maxRecDepth 100000 in
set_option maxHeartbeats 1000000 in
theorem nodesFlies_any {w : World} {L : Lay} {s : St} (h : Rep w L s) (hfl : s.fly.length ≤ 60) (i : Int) :
    Calls Tryz.prog 93 #[.pointer (some ⟨L.nb, 0, none⟩), .int .i64 i] w fun e w' => e = .returned (.bool (decide (0 ≤ i) && decide (i < s.fly.length))) ∧ w' = w := by
  go_enter Tryz.func93, Tryz.ntmps93
  go_wp2_with (go_at_call 132; refine (mailHas_any h hfl i).mono ?_; rintro e w1 ⟨rfl, rfl⟩)
  go_ret
  exact ⟨rfl, rfl⟩

theorem Tryz.infoMsg : (Tryz.prog.info? 109).map (fun i => (i.zero, i.size, i.bytes)) = some (some (.agg #[.int .i64 0, .int .i64 0, .int .i64 0, .int .i64 0]), 4, 32) := by kernel_rfl
theorem Tryz.infoRec : (Tryz.prog.info? 43).map (fun i => (i.zero, i.size, i.bytes)) = some (some (.agg #[.int .i64 0, .int .i64 0]), 2, 16) := by kernel_rfl
theorem Tryz.infoWr : (Tryz.prog.info? 74).map (fun i => (i.zero, i.size, i.bytes)) = some (some (.agg #[.int .i64 0, .int .i64 0, .int .i64 0]), 3, 24) := by kernel_rfl
theorem Tryz.infoDeal : (Tryz.prog.info? 133).map (fun i => (i.zero, i.size, i.bytes)) = some (some (.agg #[.slice none 0 0]), 1, 24) := by kernel_rfl

theorem msgCells_one (l : List Msg) : ∀ v ∈ msgCells l, v.oneCell' = true := by
  induction l with
  | nil => simp [msgCells]
  | cons x r ih => intro v hv; simp only [msgCells, List.mem_cons] at hv; rcases hv with rfl | rfl | rfl | rfl | hv <;> first | rfl | exact ih v hv
theorem recCells_one (l : List (Nat × Nat)) : ∀ v ∈ recCells l, v.oneCell' = true := by
  induction l with
  | nil => simp [recCells]
  | cons x r ih => intro v hv; simp only [recCells, List.mem_cons] at hv; rcases hv with rfl | rfl | hv <;> first | rfl | exact ih v hv
theorem wrCells_one (l : List Wr) : ∀ v ∈ wrCells l, v.oneCell' = true := by
  induction l with
  | nil => simp [wrCells]
  | cons x r ih => intro v hv; simp only [wrCells, List.mem_cons] at hv; rcases hv with rfl | rfl | rfl | hv <;> first | rfl | exact ih v hv
theorem addr_add (g j : Nat) : (⟨g, 0, none⟩ : Addr).add j = ⟨g, j, none⟩ := by unfold Addr.add; split <;> simp_all
/-- The cells of an owned slice, as a copy asks for them. -/
theorem Owns.src {w : World} {e size : Nat} {s : Sl} {xs : List Value} (h : Owns w e size s xs) : s.a = none ∧ xs = [] ∨ ∃ ad, s.a = some ad ∧ ∀ j v, xs[j]? = some v → w.cell? (ad.add j) = some v := by
  by_cases h0 : 0 < s.n
  · obtain ⟨g, ha, _, _, hc⟩ := h.at h0
    exact .inr ⟨_, ha, fun j v hv => by rw [addr_add]; exact hc j v hv⟩
  · have hx : xs = [] := List.eq_nil_of_length_eq_zero (by have := h.len; simp [show s.n = 0 from by omega] at this; simp [this])
    cases ha : s.a with
    | none => exact .inl ⟨rfl, hx⟩
    | some ad => exact .inr ⟨ad, rfl, fun j v hv => by simp [hx] at hv⟩
theorem ownsRow_setRow {w : World} {b e size g n cap : Nat} {xs ys : List Value} (h : w.ownsRow b e size (.slice (some ⟨g, 0, none⟩) n cap) n xs) (hc : cap = n) (hy : ys.length = n * size) :
    (w.setRow g ys.toArray).ownsRow b e size (.slice (some ⟨g, 0, none⟩) n cap) n ys := by
  refine ⟨hy, ?_⟩
  rcases h.2 with ⟨hv, h0⟩ | ⟨g', cap', cur, hv, hb, hg, hnc, hm, hs, ht⟩
  · cases hv
  · injection hv with h1 h2 h3
    injection h1 with h1
    injection h1 with h1
    subst h1 h3
    exact .inr ⟨g, cap, ys.toArray, rfl, hb, setRow_heap w g cur _ e _ hg, hnc, hm, by simp [hy, hc], by simp [← hy]⟩

/-- A slice that fills its array: the block holds just its cells. -/
theorem ownsRow_full {w : World} {b e size g n : Nat} {cur : Array Value} (h : w.ownsRow b e size (.slice (some ⟨g, 0, none⟩) n n) n cur.toList) : w.heap[g]? = some (.cells cur e (0, 0)) := by
  rcases h.2 with ⟨hv, h0⟩ | ⟨g', cap', cur', hv, hb, hg, hnc, hm, hs', ht⟩
  · cases hv
  · injection hv with h1 h2 h3
    injection h1 with h1
    injection h1 with h1
    subst h1 h3
    have : cur' = cur := by
      apply Array.ext'
      rw [← ht, List.take_of_length_le (by simp [hs'])]
    rw [hg, this]

set_option maxRecDepth 100000 in
set_option maxHeartbeats 1000000 in
theorem mailAll_any {w : World} {L : Lay} {s : St} (h : Rep w L s) (hfl : s.fly.length ≤ 60) :
    Calls Tryz.prog 92 #[.pointer (some ⟨L.nb, 80, none⟩)] w fun e w' => ∃ a cap, e = .returned (.slice a s.fly.length cap) ∧ Below w.heap.size w w' ∧
      w'.ownsRow w.heap.size 109 4 (.slice a s.fly.length cap) s.fly.length (msgCells s.fly) := by
  have cf := h.cf
  have HD := hide (by have := h.om.len; rw [msgCells_length] at this; omega : L.fv.n = s.fly.length)
  have hdn : L.fv.n ≤ 60 := by rw [unhide HD]; exact hfl
  clear hfl
  obtain ⟨i0, hi, hz0, hz1, hz2⟩ := info_parts Tryz.infoMsg
  go_enter Tryz.func92, Tryz.ntmps92
  go_wp2_with (first
    | at_make; refine wpList_make_full _ rfl _ _ 53 rfl w.heap.size 109 i0 (.agg #[.int .i64 0, .int .i64 0, .int .i64 0, .int .i64 0]) 4 Tryz.underlying53 hi hz0 hz1 _ _ _ _ L.fv.n rfl rfl rfl rfl (by rw [hz2]; omega) (by unfold maxLen; omega) (Nat.le_refl _) ?_; intro w1 hown1 hgrow1; have hb1 : Below w.heap.size w w1 := (Below.refl _ _).grown hgrow1 (Nat.le_refl _) (by intro k hk; cases hk); have hR1 := h.below hb1; have cf1 := hR1.cf; clear cf hgrow1; generalize hmc : madeCells _ _ = mc at hown1; have HM := hide hmc; clear hmc
    | refine wpList_copy_whole rfl (.tmp 10) (.tmp 14) 53 53 rfl 109 i0 4 Tryz.underlying53 hi hz1 w.heap.size L.fv.n L.fv.n L.fv.a L.fv.cap rfl rfl mc 109 (msgCells s.fly) ?hg ?hcur (by rw [msgCells_length, unhide HD]) hR1.om.src (msgCells_one _) ?_)
  case hg => exact ownsRow_full hown1
  case hcur => have := hown1.1; simpa using this
  go_ret
  refine ⟨some ⟨w.heap.size, 0, none⟩, L.fv.n, by rw [← unhide HD]; rfl, belowSetRow hb1 (Nat.le_refl _) _, ?_⟩
  rw [← unhide HD]
  exact ownsRow_setRow hown1 rfl (by rw [msgCells_length, unhide HD])

set_option maxRecDepth 100000 in
set_option maxHeartbeats 1000000 in
theorem nodesFlying_any {w : World} {L : Lay} {s : St} (h : Rep w L s) (hfl : s.fly.length ≤ 60) :
    Calls Tryz.prog 59 #[.pointer (some ⟨L.nb, 0, none⟩)] w fun e w' => ∃ a cap, e = .returned (.slice a s.fly.length cap) ∧ Below w.heap.size w w' ∧
      w'.ownsRow w.heap.size 109 4 (.slice a s.fly.length cap) s.fly.length (msgCells s.fly) := by
  go_enter Tryz.func59, Tryz.ntmps59
  go_wp2_with (go_at_call 92; refine (mailAll_any h hfl).mono ?_; rintro e w1 ⟨a, cap, rfl, hb, hown⟩)
  go_ret
  exact ⟨a, cap, rfl, hb, hown⟩
end Go.Proofs.YtekbjlhbjcikdaaGreat
