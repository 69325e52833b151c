/-
  Walk of accordkeep.writes.
-/
import Derived.Test.YtekbjlhbjcikdaaGreatK1
import Derived.BigQuiet
import Derived.Deep.QuietTactic
import Derived.WalkSmall
namespace Go.Proofs.YtekbjlhbjcikdaaGreat
open Go.RowKit Acc

theorem heap_alloc_new' (w : World) (o : Obj) (k : Nat) (hk : k = w.heap.size) : (w.alloc o).heap[k]? = some o := by subst hk; exact heap_alloc_new w o

/-- What the walk of writes keeps while it goes round. -/
theorem ownsRow_rebase {w : World} {e size : Nat} {s : Sl} {xs : List Value} {base : Nat} (h : Owns w e size s xs) (hb : ∀ a, s.a = some a → base ≤ a.block) : w.ownsRow base e size (.slice s.a s.n s.cap) s.n xs := by
  refine ⟨h.1, ?_⟩
  rcases h.2 with h' | ⟨g, cap, cur, hv, h0, r⟩
  · exact .inl h'
  · injection hv with e1 e2 e3
    exact .inr ⟨g, cap, cur, by rw [e1, e3], hb _ e1, r⟩
structure WKeep (w wr : World) (A B C : Int) (k : Nat) : Prop where
  c1 : wr.cell? ⟨w.heap.size, 1, none⟩ = some (.int .i64 A)
  r0 : wr.cell? ⟨w.heap.size + 1 + 1, 0, none⟩ = some (.int .i64 B)
  r1 : wr.cell? ⟨w.heap.size + 1 + 1, 1, none⟩ = some (.int .i64 C)
  k1 : w.heap.size < k
  k2 : k ≠ w.heap.size + 1 + 1
  sz : w.heap.size + 3 ≤ wr.heap.size
  bl : Below w.heap.size w wr

theorem WKeep.below {w wr wq : World} {A B C : Int} {k : Nat} (h : WKeep w wr A B C k) (hb : Below wr.heap.size wr wq) : WKeep w wq A B C k where
  c1 := (hb.cell (p := ⟨w.heap.size, 1, none⟩) (by have := h.sz; show w.heap.size < _; omega)).trans h.c1
  r0 := (hb.cell (p := ⟨w.heap.size + 1 + 1, 0, none⟩) (by have := h.sz; show w.heap.size + 1 + 1 < _; omega)).trans h.r0
  r1 := (hb.cell (p := ⟨w.heap.size + 1 + 1, 1, none⟩) (by have := h.sz; show w.heap.size + 1 + 1 < _; omega)).trans h.r1
  k1 := h.k1
  k2 := h.k2
  sz := Nat.le_trans h.sz hb.size
  bl := h.bl.more hb
theorem WKeep.grown {w wr wq : World} {A B C : Int} {k k' n cap : Nat} (h : WKeep w wr A B C k) (hg : wr.grownBy wq (Value.slice (some ⟨k, 0, none⟩) n cap).ownBlock) (hk : (some ⟨k, 0, none⟩ : Option Addr) = some ⟨k', 0, none⟩ ∨ wr.heap.size ≤ k') : WKeep w wq A B C k' where
  c1 := hg.cell h.c1 (by have := h.k1; simp [Value.ownBlock]; omega)
  r0 := hg.cell h.r0 (by have := h.k2; simp [Value.ownBlock]; omega)
  r1 := hg.cell h.r1 (by have := h.k2; simp [Value.ownBlock]; omega)
  k1 := by
    rcases hk with hk | hk
    · injection hk with hk; injection hk with hk; rw [← hk]; exact h.k1
    · have := h.sz; omega
  k2 := by
    rcases hk with hk | hk
    · injection hk with hk; injection hk with hk; rw [← hk]; exact h.k2
    · have := h.sz; omega
  sz := Nat.le_trans h.sz hg.size
  bl := h.bl.grown hg h.bl.size (by intro b hb; simp only [Value.ownBlock, Option.some.injEq] at hb; have := h.k1; omega)

set_option maxRecDepth 100000 in
set_option maxHeartbeats 4000000 in
theorem writes_any (K A B C : Int) (w : World) (hA : -9223372036854775808 ≤ A) (hA' : A ≤ 9223372036854775807) (hB : -9223372036854775808 ≤ B) (hB' : B ≤ 9223372036854775807) (hC : -9223372036854775808 ≤ C) (hC' : C ≤ 9223372036854775807) :
    Calls Tryz.prog 43 #[.agg #[.int .i64 K, .int .i64 A, .int .i64 B, .int .i64 C]] w fun e w' => ∃ a cap, e = .returned (.slice a (writesOf A B C).length cap) ∧ Below w.heap.size w w' ∧
      w'.ownsRow w.heap.size 74 3 (.slice a (writesOf A B C).length cap) (writesOf A B C).length (wrCells (writesOf A B C)) := by
  have r1 := pickI_range A 3 (by omega)
  have r2 := pickI_range (A.tdiv 3) 2 (by omega)
  have r3 := pickI_range C 1000 (by omega)
  have p1 := hide (fun w => pick_any A 3 w (by omega) (by omega) hA hA')
  have p2 := hide (fun w => pick_tdiv A w hA hA')
  have p3 := hide (fun w => pick_any C 1000 w (by omega) (by omega) hC hC')
  go_enter Tryz.func43, Tryz.ntmps43
  go_wp2_with fail
  go_region_held3 (fun w' => w'.cell? ⟨w.heap.size, 1, none⟩ = some (.int .i64 A) ∧ w'.cell? ⟨w.heap.size, 2, none⟩ = some (.int .i64 B) ∧ w'.cell? ⟨w.heap.size, 3, none⟩ = some (.int .i64 C)) (go_keep)
    (first
      | (go_at_call_of 31 (Value.int IntKind.i64 3); refine (unhide p1 _).mono ?_; rintro e w' ⟨rfl, rfl⟩)
      | (go_at_call_of 31 (Value.int IntKind.i64 2); refine (unhide p2 _).mono ?_; rintro e w' ⟨rfl, rfl⟩)
      | (go_at_call_of 31 (Value.int IntKind.i64 1000); refine (unhide p3 _).mono ?_; rintro e w' ⟨rfl, rfl⟩))
  have e1 : IntKind.i64.wrap (1 + pickI A 3) = 1 + pickI A 3 := by rw [IntKind.wrap_i64]; omega
  have e2 : IntKind.i64.wrap (1 + pickI C 1000) = 1 + pickI C 1000 := by rw [IntKind.wrap_i64]; omega
  have e3 : IntKind.i64.wrap (A.tdiv 3) = A.tdiv 3 := by have := tdiv3_range A hA hA'; rw [IntKind.wrap_i64]; omega
  simp only [e1, e2, e3]
  clear e1 e2 e3
  go_wp2_with fail
  go_loopw [3, 5] (fun l i wr => ∃ j k cap : Nat, j ≤ 2 ∧ i = .int .i64 j ∧ l = .slice (some ⟨k, 0, none⟩) (writesTo A B C j).length cap ∧ WKeep w wr A B C k ∧
      Owns wr 74 3 ⟨some ⟨k, 0, none⟩, (writesTo A B C j).length, cap⟩ (wrCells (writesTo A B C j))) (fun _ i _ => 2 - (intOf i).toNat)
  case atStart =>
    refine ⟨0, w.heap.size + 1, 1, by omega, rfl, rfl, ⟨?_, ?_, ?_, by omega, by omega, ?_, ?_⟩, ?_⟩
    · simp [go_sem]
    · simp [go_sem]
    · simp [go_sem]
    · simp
    · exact (((below_alloc _ _).more (below_alloc _ _)).more (below_alloc _ _)).drew
    · refine ⟨by simp [writesTo, writes0, wrCells], .inr ⟨w.heap.size + 1, 1, #[.int .i64 (1 + pickI A 3), .int .i64 (pickI (A.tdiv 3) 2), .int .i64 (1 + pickI C 1000)], rfl, Nat.zero_le _, ?_, by simp [writesTo, writes0], by unfold maxLen; omega, by simp, by simp [writesTo, writes0, wrCells]⟩⟩
      show (((w.alloc _).alloc _).alloc _).heap[w.heap.size + 1]? = _
      rw [Below.heap_alloc _ _ _ (by simp), heap_alloc_new' _ _ _ (by simp)]
  case round =>
    clear p1 p2 p3 r1 r2 r3
    obtain ⟨j, k, cap, hj, rfl, rfl, hk, hown⟩ := hrel
    by_cases hlt : j < 2
    · obtain ⟨r, hr, hr1, hr2, hstep⟩ : ∃ r, wr.cell? ⟨w.heap.size + 1 + 1, j, none⟩ = some (.int .i64 r) ∧ -9223372036854775808 ≤ r ∧ r ≤ 9223372036854775807 ∧ writesTo A B C (j + 1) = addW (writesTo A B C j) (wx r A) := by
        match j, hlt with
        | 0, _ => exact ⟨B, hk.r0, hB, hB', rfl⟩
        | 1, _ => exact ⟨C, hk.r1, hC, hC', rfl⟩
      have HS := hide hstep
      clear hstep
      have hc1 := hk.c1
      have hsz := hk.sz
      have q1 := pickI_range r 3 (by omega)
      have q2 := pickI_range (r.tdiv 3) 2 (by omega)
      have q3 := pickI_range A 1000 (by omega)
      have p1 := hide (fun w => pick_any r 3 w (by omega) (by omega) hr1 hr2)
      have p2 := hide (fun w => pick_tdiv r w hr1 hr2)
      have p3 := hide (fun w => pick_any A 1000 w (by omega) (by omega) hA hA')
      have hlen := writesTo_len A B C j hj
      have hlen1 := writesTo_len A B C (j + 1) (by omega)
      have HL1 := hide hlen1
      have HK := hide hk
      clear hlen1 hk
      go_wp2_with fail
      go_region_held3 (fun w' => w'.cell? ⟨w.heap.size + 1 + 1, j, none⟩ = some (.int .i64 r) ∧ w'.cell? ⟨w.heap.size, 1, none⟩ = some (.int .i64 A)) (go_keep)
        (first
          | (go_at_call_of 31 (Value.int IntKind.i64 3); refine (unhide p1 _).mono ?_; rintro e w' ⟨rfl, rfl⟩)
          | (go_at_call_of 31 (Value.int IntKind.i64 2); refine (unhide p2 _).mono ?_; rintro e w' ⟨rfl, rfl⟩)
          | (go_at_call_of 31 (Value.int IntKind.i64 1000); refine (unhide p3 _).mono ?_; rintro e w' ⟨rfl, rfl⟩))
      all_goals
        have e1 : IntKind.i64.wrap (1 + pickI r 3) = 1 + pickI r 3 := by rw [IntKind.wrap_i64]; omega
        have e2 : IntKind.i64.wrap (2 + pickI A 1000) = 2 + pickI A 1000 := by rw [IntKind.wrap_i64]; omega
        simp only [e1, e2]
        clear e1 e2
        go_wp2_with fail
      all_goals
        have hbW : Below wr.heap.size wr (wr.alloc (Obj.cells #[.int .i64 (1 + pickI r 3), .int .i64 (pickI (r.tdiv 3) 2), .int .i64 (2 + pickI A 1000)] 74)).drew := (below_alloc _ _).drew
        have x0 : (wr.alloc (Obj.cells #[.int .i64 (1 + pickI r 3), .int .i64 (pickI (r.tdiv 3) 2), .int .i64 (2 + pickI A 1000)] 74)).drew.cell? ⟨wr.heap.size, 0, none⟩ = some (.int .i64 (1 + pickI r 3)) := by simp [go_sem]
        have x1 : (wr.alloc (Obj.cells #[.int .i64 (1 + pickI r 3), .int .i64 (pickI (r.tdiv 3) 2), .int .i64 (2 + pickI A 1000)] 74)).drew.cell? ⟨wr.heap.size, 1, none⟩ = some (.int .i64 (pickI (r.tdiv 3) 2)) := by simp [go_sem]
        have x2 : (wr.alloc (Obj.cells #[.int .i64 (1 + pickI r 3), .int .i64 (pickI (r.tdiv 3) 2), .int .i64 (2 + pickI A 1000)] 74)).drew.cell? ⟨wr.heap.size, 2, none⟩ = some (.int .i64 (2 + pickI A 1000)) := by simp [go_sem]
        have hszW : wr.heap.size < (wr.alloc (Obj.cells #[.int .i64 (1 + pickI r 3), .int .i64 (pickI (r.tdiv 3) 2), .int .i64 (2 + pickI A 1000)] 74)).drew.heap.size := by simp
        generalize (wr.alloc (Obj.cells #[.int .i64 (1 + pickI r 3), .int .i64 (pickI (r.tdiv 3) 2), .int .i64 (2 + pickI A 1000)] 74)).drew = W at *
        have hK := (unhide HK).below hbW
        have hOW : Owns W 74 3 ⟨some ⟨k, 0, none⟩, (writesTo A B C j).length, cap⟩ (wrCells (writesTo A B C j)) := ownsRow_below hown hbW
        have HX : Hid ((wx r A).part = 1 + pickI r 3) := rfl
        have HX3 : Hid (wrCells [wx r A] = [.int .i64 (1 + pickI r 3), .int .i64 (pickI (r.tdiv 3) 2), .int .i64 (2 + pickI A 1000)]) := rfl
        clear p1 p2 p3 hown HK hr hbW hc1
        generalize wr.heap.size = xb at *
        generalize hll : writesTo A B C j = l at *
        have HLL := hide hll
        clear hll
        go_loopw [7, 8] (fun ag q wr => ∃ i : Nat, i ≤ l.length ∧ q = .int .i64 i ∧ ag = .bool (hasPart (l.take i) (1 + pickI r 3)) ∧ Below W.heap.size W wr) (fun _ q _ => l.length - (intOf q).toNat)
        case atStart => exact ⟨0, by omega, rfl, by simp [hasPart], Below.refl _ _⟩
        case round =>
          obtain ⟨i, hi, rfl, rfl, hbq⟩ := hrel
          have hcq := bcell hbq
          have y0 := (hcq.1 xb 0 hszW).trans x0
          have y1 := (hcq.1 xb 1 hszW).trans x1
          have y2 := (hcq.1 xb 2 hszW).trans x2
          have hszq := hbq.size
          clear hcq
          by_cases hil : i < l.length
          · have hx : l[i]? = some l[i] := List.getElem?_eq_getElem _
            generalize l[i] = y at hx
            have HT := hide (hasPart_take l (1 + pickI r 3) i y hx)
            have hOq : Owns wr 74 3 ⟨some ⟨k, 0, none⟩, l.length, cap⟩ (wrCells l) := ownsRow_below hOW hbq
            have hcp := hOq.cap_le
            obtain ⟨_, hwr⟩ := hOq.wrAt
            rcases hwr with h0 | ⟨g, o, ha, hg, hc⟩
            · simp [h0] at hx
            · simp only [Option.some.injEq, Addr.mk.injEq, and_true] at ha
              obtain ⟨rfl, rfl⟩ := ha
              obtain ⟨z0, z1, z2⟩ := hc i y hx
              simp only [Nat.zero_add] at z0 z1 z2
              have hil' : (i : Int) < (l.length : Int) := by omega
              clear hc hx hOq x0 x1 x2 hOW
              cases hh : hasPart (l.take i) (1 + pickI r 3) with
              | true =>
                have HH := hide hh
                clear hh
                go_wp2_with fail
                go_quiet (fail)
                go_wp2
                refine ⟨⟨i + 1, by omega, by go_num, ?_, below_drewN hbq _⟩, by simp [intOf]; omega⟩
                rw [unhide HT, unhide HH]; rfl
              | false =>
                have HH := hide hh
                clear hh
                go_wp2_with fail
                go_quiet (fail)
                go_wp2
                all_goals
                  refine ⟨⟨i + 1, by omega, by go_num, ?_, below_drewN hbq _⟩, by simp [intOf]; omega⟩
                  rw [unhide HT, unhide HH]
                  simp [*]
                  try rfl
          · have hfull : l.take i = l := List.take_of_length_le (by omega)
            rw [hfull]
            have hKq := hK.below hbq
            have hOq : Owns wr 74 3 ⟨some ⟨k, 0, none⟩, l.length, cap⟩ (wrCells l) := ownsRow_below hOW hbq
            clear hfull x0 x1 x2 hOW hK hbq
            cases hh : hasPart l (1 + pickI r 3) with
            | true =>
              have hst : writesTo A B C (j + 1) = l := by rw [unhide HS]; unfold addW; rw [unhide HX, hh]; rfl
              have HST := hide hst
              clear hh hst
              go_wp2
              refine ⟨⟨j + 1, k, cap, by omega, by go_num, by rw [unhide HST], hKq, ?_⟩, by simp [intOf]; omega⟩
              rw [unhide HST]; exact hOq
            | false =>
              have hst : writesTo A B C (j + 1) = l ++ [wx r A] := by rw [unhide HS]; unfold addW; rw [unhide HX, hh]; rfl
              have HST := hide hst
              clear hh hst
              obtain ⟨i0, hi0, hz0, hz1, hz2⟩ := info_parts Tryz.infoWr
              go_wp2_with (at_builtin; refine wpList_append_one rfl _ _ 52 rfl 74 i0 (.agg #[.int .i64 0, .int .i64 0, .int .i64 0]) 3 24 Tryz.underlying52 hi0 hz0 hz1 hz2 rfl (by decide) (some ⟨k, 0, none⟩) l.length cap (wrCells l) rfl (World.ownsRow.alloc hOq _) ⟨wr.heap.size, 0, none⟩ 1 [.int .i64 (1 + pickI r 3), .int .i64 (pickI (r.tdiv 3) 2), .int .i64 (2 + pickI A 1000)] rfl rfl (new_cells _ _ _) (fun x hx => by simp at hx; rcases hx with rfl | rfl | rfl <;> rfl) (by unfold maxLen; omega) (by omega) ?_; intro k' cap' w3 g1 g2 g3)
              refine ⟨⟨j + 1, k', cap', by omega, by go_num, ?_, (hKq.below (below_alloc _ _)).grown g2 g3, ?_⟩, by simp [intOf]; omega⟩
              · rw [unhide HST]; simp
              · rw [unhide HST, wrCells_append, unhide HX3]
                rw [show (l ++ [wx r A]).length = l.length + 1 from by simp]
                exact g1
    · have hj2 : j = 2 := by omega
      subst hj2
      have hbl := hk.bl
      have hk1 := hk.k1
      clear hk
      go_wp2
      go_ret
      refine ⟨some ⟨k, 0, none⟩, cap, rfl, hbl, ?_⟩
      exact ownsRow_rebase hown (by intro b hb; simp only [Option.some.injEq] at hb; subst hb; exact Nat.le_of_lt hk1)
end Go.Proofs.YtekbjlhbjcikdaaGreat
