/-
  Walks of the functions that only read: writes of a transaction.
-/
import Derived.Test.YtekbjlhbjcikdaaGreatBase
namespace Go.Proofs.YtekbjlhbjcikdaaGreat
open Go.RowKit Acc

/-- A slice of writes, wherever it lies. -/
def WrAt (w : World) (a : Option Addr) (ws : List Wr) : Prop :=
  ws = [] ∨ ∃ g o, a = some ⟨g, o, none⟩ ∧ g < w.heap.size ∧ ∀ i x, ws[i]? = some x → w.cell? ⟨g, o + i * 3, none⟩ = some (.int .i64 x.part) ∧ w.cell? ⟨g, o + i * 3 + 1, none⟩ = some (.int .i64 x.key) ∧ w.cell? ⟨g, o + i * 3 + 2, none⟩ = some (.int .i64 x.val)

theorem WrAt.below {w w' : World} {a : Option Addr} {ws : List Wr} (h : WrAt w a ws) (hb : Below w.heap.size w w') : WrAt w' a ws := by
  rcases h with h | ⟨g, o, ha, hg, hc⟩
  · exact .inl h
  · exact .inr ⟨g, o, ha, Nat.lt_of_lt_of_le hg hb.size, fun i x hx => by
      obtain ⟨h0, h1, h2⟩ := hc i x hx
      exact ⟨(hb.cell hg).trans h0, (hb.cell hg).trans h1, (hb.cell hg).trans h2⟩⟩

theorem findI_drop (ws : List Wr) (p k : Int) (i : Nat) (x : Wr) (h : ws[i]? = some x) :
    findI (ws.drop i) p k i = if x.part = p ∧ x.key = k then (i : Int) else findI (ws.drop (i + 1)) p k ((i + 1 : Nat) : Int) := by
  rw [List.drop_eq_getElem?_toList_append, h]
  simp [findI]
theorem findI_nil (ws : List Wr) (p k : Int) (i : Nat) (h : ws.length ≤ i) : findI (ws.drop i) p k i = -1 := by
  rw [List.drop_of_length_le h]; rfl

set_option maxHeartbeats 400000 in
theorem isKey_any (k : Int) (w : World) :
    Calls Tryz.prog 89 #[.int .i64 k] w fun e w' => e = .returned (.bool (decide (0 ≤ k) && decide (k < 4))) ∧ w' = w := by
  by_cases h : 0 ≤ k
  · go_enter Tryz.func89, Tryz.ntmps89
    go_wp2
    go_ret
    exact ⟨by simp [h], rfl⟩
  · go_enter Tryz.func89, Tryz.ntmps89
    go_wp2
    go_ret
    exact ⟨by simp; omega, rfl⟩

set_option maxHeartbeats 400000 in
theorem find_any (a : Option Addr) (n cap : Nat) (ws : List Wr) (p k : Int) (w : World) (hn : ws.length = n) (hm : n ≤ 1000000) (hw : WrAt w a ws) :
    Calls Tryz.prog 116 #[.slice a n cap, .int .i64 p, .int .i64 k] w fun e w' => e = .returned (.int .i64 (findI ws p k 0)) ∧ Below w.heap.size w w' := by
  have HN : Hid (ws.length = n) := hn
  clear hn
  go_enter Tryz.func116, Tryz.ntmps116
  go_wp2
  go_loopw [11] (fun i wr => ∃ j : Nat, j ≤ n ∧ i = .int .i64 j ∧ Below w.heap.size w wr ∧ Hid (findI ws p k 0 = findI (ws.drop j) p k j)) (fun i _ => n - (intOf i).toNat)
  case atStart => exact ⟨0, by omega, rfl, Below.refl _ _, by simp [Hid]⟩
  case round =>
    obtain ⟨j, hj, rfl, hb, hf⟩ := hrel
    by_cases hlt : j < n
    · have hx : ws[j]? = some (ws[j]'(by rw [HN.out]; exact hlt)) := List.getElem?_eq_getElem _
      have hd := findI_drop ws p k j _ hx
      generalize ws[j]'(by rw [HN.out]; exact hlt) = x at hx hd
      have hw' := hw.below hb
      rcases hw' with h | ⟨g, o, ha, hg, hc⟩
      · simp [h] at hx
      · subst ha
        obtain ⟨c0, c1, c2⟩ := hc j x hx
        clear hc hw hx
        have HD : Hid _ := hd
        clear hd
        go_wp2
        · go_ret
          refine ⟨?_, hb.alloc hb.size _⟩
          rw [hf.out, HD.out, if_pos ⟨‹_›, by simpa using ‹(x.key == k) = true›⟩]
          rfl
        · refine ⟨⟨j + 1, by omega, by go_num, hb.alloc hb.size _, ?_⟩, by simp [intOf]; omega⟩
          have h2 : ¬ x.key = k := by simpa using ‹(x.key == k) = false›
          show _ = _
          rw [hf.out, HD.out, if_neg (fun h => h2 h.2)]
        · refine ⟨⟨j + 1, by omega, by go_num, hb.alloc hb.size _, ?_⟩, by simp [intOf]; omega⟩
          have h2 : ¬ x.part = p := ‹_›
          show _ = _
          rw [hf.out, HD.out, if_neg (fun h => h2 h.1)]
    · go_wp2
      go_ret
      refine ⟨?_, hb⟩
      rw [hf.out, findI_nil ws p k j (by rw [HN.out]; omega)]
      rfl

theorem findI_W (ws : List Wr) (p k : Int) (i : Nat) : (findI ws p k i < 0 ∧ findW ws p k = none) ∨ ∃ j : Nat, ∃ x, findI ws p k i = ((i + j : Nat) : Int) ∧ ws[j]? = some x ∧ findW ws p k = some x.val := by
  induction ws generalizing i with
  | nil => exact .inl ⟨by simp [findI], rfl⟩
  | cons x r ih =>
    by_cases h : x.part = p ∧ x.key = k
    · exact .inr ⟨0, x, by simp [findI, h], rfl, by simp [findW, h]⟩
    · have := ih (i + 1)
      simp only [findI, findW, if_neg h]
      rw [show ((i : Int) + 1) = ((i + 1 : Nat) : Int) from rfl]
      rcases this with h' | ⟨j, y, h1, h2, h3⟩
      · exact .inl h'
      · exact .inr ⟨j + 1, y, by rw [h1]; congr 1; omega, by simpa using h2, h3⟩

theorem bcell {W w1 : World} (hb : Below W.heap.size W w1) : (∀ b o, b < W.heap.size → w1.cell? ⟨b, o, none⟩ = W.cell? ⟨b, o, none⟩) ∧ (∀ b o, b < W.heap.size → w1.frozen? ⟨b, o, none⟩ = W.frozen? ⟨b, o, none⟩) :=
  ⟨fun b o h => hb.cell (p := ⟨b, o, none⟩) h, fun b o h => hb.frozen (p := ⟨b, o, none⟩) h⟩
theorem below_alloc (w : World) (o : Obj) : Below w.heap.size w (w.alloc o) := (Below.refl _ _).alloc (Nat.le_refl _) o
/-- A step more, from a world that has grown. -/
theorem _root_.Go.RowKit.Below.more {w w1 w2 : World} (h : Below w.heap.size w w1) (k : Below w1.heap.size w1 w2) : Below w.heap.size w w2 := h.trans (k.mono h.size)

set_option maxHeartbeats 400000 in
theorem dealValue_any (a : Option Addr) (n cap : Nat) (ws : List Wr) (p k : Int) (w : World) (hn : ws.length = n) (hm : n ≤ 1000000) (hw : WrAt w a ws) :
    Calls Tryz.prog 91 #[.agg #[.slice a n cap], .int .i64 p, .int .i64 k] w fun e w' =>
      e = .returned (.tuple #[.int .i64 ((findW ws p k).getD 0), .bool (findW ws p k).isSome]) ∧ Below w.heap.size w w' := by
  have HN : Hid (ws.length = n) := hn
  clear hn
  rcases findI_W ws p k 0 with ⟨h1, h2⟩ | ⟨j, x, h1, hx, h3⟩
  · rw [h2]
    clear h2
    go_enter Tryz.func91, Tryz.ntmps91
    go_wp2_with fail
    refine (find_any a n cap ws p k _ HN.out hm (hw.below (below_alloc _ _))).mono ?_
    rintro e w1 ⟨rfl, hb⟩
    generalize findI ws p k 0 = fi at *
    go_wp2
    go_ret2
    exact ⟨rfl, (below_alloc _ _).more hb⟩
  · have H1 : Hid (findI ws p k 0 = ((0 + j : Nat) : Int)) := h1
    have H3 : Hid (findW ws p k = some x.val) := h3
    have hjn : j < n := by rw [← HN.out]; exact (List.getElem?_eq_some_iff.1 hx).1
    clear h1 h3
    go_enter Tryz.func91, Tryz.ntmps91
    go_wp2_with fail
    refine (find_any a n cap ws p k _ HN.out hm (hw.below (below_alloc _ _))).mono ?_
    rintro e w1 ⟨rfl, hb⟩
    rw [H1.out, Nat.zero_add]
    have hw1 := (hw.below (below_alloc _ _)).below hb
    rcases hw1 with h | ⟨g, o, ha, hg, hc⟩
    · simp [h] at hx
    · subst ha
      obtain ⟨c0, c1, c2⟩ := hc j x hx
      obtain ⟨hcell, hfz⟩ := bcell hb
      clear hc hw hx c0 c1
      go_wp2
      go_ret2
      refine ⟨?_, (below_alloc _ _).more hb⟩
      rw [H3.out]; rfl

theorem hasPart_drop (ws : List Wr) (p : Int) (i : Nat) (x : Wr) (h : ws[i]? = some x) :
    hasPart (ws.drop i) p = (decide (x.part = p) || hasPart (ws.drop (i + 1)) p) := by
  rw [List.drop_eq_getElem?_toList_append, h]
  simp [hasPart]

set_option maxHeartbeats 400000 in
theorem hasMember_any (a : Option Addr) (n cap : Nat) (ws : List Wr) (p : Int) (w : World) (hn : ws.length = n) (hm : n ≤ 1000000) (hw : WrAt w a ws) :
    Calls Tryz.prog 166 #[.agg #[.slice a n cap], .int .i64 p] w fun e w' => e = .returned (.bool (hasPart ws p)) ∧ Below w.heap.size w w' := by
  have HN : Hid (ws.length = n) := hn
  clear hn
  go_enter Tryz.func166, Tryz.ntmps166
  go_wp2
  go_loopw [10] (fun i wr => ∃ j : Nat, j ≤ n ∧ i = .int .i64 j ∧ Below w.heap.size w wr ∧ Hid (hasPart ws p = hasPart (ws.drop j) p)) (fun i _ => n - (intOf i).toNat)
  case atStart => exact ⟨0, by omega, rfl, below_alloc _ _, by simp [Hid]⟩
  case round =>
    obtain ⟨j, hj, rfl, hb, hf⟩ := hrel
    by_cases hlt : j < n
    · have hx : ws[j]? = some (ws[j]'(by rw [HN.out]; exact hlt)) := List.getElem?_eq_getElem _
      have hd := hasPart_drop ws p j _ hx
      generalize ws[j]'(by rw [HN.out]; exact hlt) = x at hx hd
      have hw' := hw.below hb
      rcases hw' with h | ⟨g, o, ha, hg, hc⟩
      · simp [h] at hx
      · subst ha
        obtain ⟨c0, c1, c2⟩ := hc j x hx
        clear hc hw hx
        have HD : Hid _ := hd
        clear hd
        by_cases hp : x.part = p
        · have hp2 : (x.part == p) = true := by simpa using hp
          have HP : Hid (x.part = p) := hp
          clear hp
          go_wp2
          go_ret
          refine ⟨?_, hb.alloc hb.size _⟩
          rw [hf.out, HD.out, HP.out]
          simp
        · have hp2 : (x.part == p) = false := by simpa using hp
          go_wp2
          refine ⟨⟨j + 1, by omega, by go_num, hb.alloc hb.size _, ?_⟩, by simp [intOf]; omega⟩
          show _ = _
          rw [hf.out, HD.out]
          simp [hp]
    · go_wp2
      go_ret
      refine ⟨?_, hb⟩
      rw [hf.out, List.drop_of_length_le (by rw [HN.out]; omega)]
      rfl

theorem ownsRow_sl {w : World} {b e size : Nat} {v : Value} {n : Nat} {xs : List Value} (h : w.ownsRow b e size v n xs) : ∃ a cap, v = .slice a n cap := by
  rcases h.2 with ⟨hv, h0⟩ | ⟨g, cap, cur, hv, _⟩
  · exact ⟨none, 0, by rw [hv, h0]⟩
  · exact ⟨_, cap, hv⟩
theorem ownsRow_mono {w : World} {b b' e size : Nat} {v : Value} {n : Nat} {xs : List Value} (h : w.ownsRow b e size v n xs) (hb : b' ≤ b) : w.ownsRow b' e size v n xs := by
  refine ⟨h.1, ?_⟩
  rcases h.2 with h' | ⟨g, cap, cur, hv, h0, r⟩
  · exact .inl h'
  · exact .inr ⟨g, cap, cur, hv, Nat.le_trans hb h0, r⟩
theorem ownsRow_below {w w' : World} {b e size : Nat} {v : Value} {n : Nat} {xs : List Value} (h : w.ownsRow b e size v n xs) (hb : Below w.heap.size w w') : w'.ownsRow b e size v n xs := by
  refine ⟨h.1, ?_⟩
  rcases h.2 with h' | ⟨g, cap, cur, hv, h0, hg, r⟩
  · exact .inl h'
  · exact .inr ⟨g, cap, cur, hv, h0, by rw [hb.block g (Array.getElem?_eq_some_iff.1 hg).1]; exact hg, r⟩
theorem Tryz.infoInt : (Tryz.prog.info? 3).map (fun i => (i.zero, i.size, i.bytes)) = some (some (.int .i64 0), 1, 8) := by kernel_rfl

def natCells (l : List Nat) : List Value := l.map fun (m : Nat) => .int .i64 (m : Int)
theorem natCells_append (a b : List Nat) : natCells (a ++ b) = natCells a ++ natCells b := by simp [natCells]
theorem membersTo_len (ws : List Wr) (j : Nat) : (membersTo ws j).length ≤ j := by
  induction j with
  | zero => simp [membersTo]
  | succ n ih => simp only [membersTo, List.length_append]; split <;> simp <;> omega

set_option maxRecDepth 100000 in
set_option maxHeartbeats 1000000 in
theorem members_any (a : Option Addr) (n cap : Nat) (ws : List Wr) (w : World) (hn : ws.length = n) (hm : n ≤ 1000000) (hw : WrAt w a ws) :
    Calls Tryz.prog 131 #[.agg #[.slice a n cap]] w fun e w' => ∃ sa sc, e = .returned (.slice sa (members ws).length sc) ∧ Below w.heap.size w w' ∧
      w'.ownsRow w.heap.size 3 1 (.slice sa (members ws).length sc) (members ws).length (natCells (members ws)) := by
  have HN : Hid (ws.length = n) := hn
  clear hn
  obtain ⟨i0, hi, hz0, hz1, hz2⟩ := info_parts Tryz.infoInt
  go_enter Tryz.func131, Tryz.ntmps131
  go_wp2
  go_loopw [3, 4] (fun ms i wr => ∃ j : Nat, j ≤ 5 ∧ i = .int .i64 ((j : Int) + 1) ∧ Below (w.heap.size + 1) (w.alloc (Obj.cells #[Value.slice a n cap] 133)) wr ∧ ∃ sa sc, ms = .slice sa (membersTo ws j).length sc ∧
      wr.ownsRow (w.heap.size + 1) 3 1 (.slice sa (membersTo ws j).length sc) (membersTo ws j).length (natCells (membersTo ws j))) (fun _ i _ => 6 - (intOf i).toNat)
  case atStart => exact ⟨0, by omega, rfl, Below.refl _ _, none, 0, rfl, by simpa [membersTo, natCells] using World.ownsRow_nil _ _ _ _⟩
  case round =>
    obtain ⟨j, hj, rfl, hb, sa, sc, rfl, hown⟩ := hrel
    have hb0 : Below w.heap.size w wr := (below_alloc _ _).trans (hb.mono (by omega))
    have hlen := membersTo_len ws j
    have hsz : w.heap.size + 1 ≤ wr.heap.size := by have := hb.size; simpa using this
    have hbox : wr.cell? ⟨w.heap.size, 0, none⟩ = some (.slice a n cap) := by
      rw [hb.cell (p := ⟨w.heap.size, 0, none⟩) (by simp)]; simp [go_sem]
    by_cases hlt : j < 5
    · have hs : membersTo ws (j + 1) = membersTo ws j ++ (if hasPart ws ((j : Int) + 1) then [j + 1] else []) := rfl
      by_cases hp : hasPart ws ((j : Int) + 1) = true
      · have HS : Hid (membersTo ws (j + 1) = membersTo ws j ++ [j + 1]) := by show _ = _; simpa [hp] using hs
        have HP : Hid _ := hp
        clear hs hp
        generalize membersTo ws j = m at *
        go_wp2_with fail
        refine (hasMember_any a n cap ws ((j : Int) + 1) _ HN.out hm (hw.below hb0)).mono ?_
        rintro e w1 ⟨rfl, hb1⟩
        rw [HP.out]
        have hown1 := ownsRow_below hown hb1
        have hs1 := hb1.size
        clear hown hbox hb0
        go_wp2_with (at_builtin; refine wpList_append_own _ rfl _ _ 56 rfl (w.heap.size + 1) 3 i0 (.int .i64 0) 1 8 Tryz.underlying56 hi hz0 hz1 hz2 rfl (by decide) _ _ _ rfl (hown1.alloc _) ⟨w1.heap.size, 0, none⟩ 1 1 [.int .i64 ((j : Int) + 1)] rfl rfl (cell_one_new _ _ _) (fun x hx => by simp at hx; subst hx; rfl) (by unfold maxLen; omega) (by omega) (by simp; omega) ?_; intro v' w3 hown' hgrow3 hnil3)
        obtain ⟨sa', sc', rfl⟩ := ownsRow_sl hown'
        refine ⟨⟨j + 1, by omega, by go_num, ?_, sa', sc', ?_, ?_⟩, by simp [intOf]; omega⟩
        · refine ((hb.trans (hb1.mono hsz)).alloc (by omega) _).grown hgrow3 (by simp; omega) ?_
          intro k hk
          have := hown1.lt k hk
          exact this.1
        · rw [HS.out]; simp
        · rw [HS.out, natCells_append]; simpa [natCells] using hown'
      · have HS : Hid (membersTo ws (j + 1) = membersTo ws j) := by show _ = _; simpa [hp] using hs
        have HP : Hid (hasPart ws ((j : Int) + 1) = false) := by show _ = _; simpa using hp
        clear hs hp
        generalize membersTo ws j = m at *
        go_wp2_with fail
        refine (hasMember_any a n cap ws ((j : Int) + 1) _ HN.out hm (hw.below hb0)).mono ?_
        rintro e w1 ⟨rfl, hb1⟩
        rw [HP.out]
        have hown1 := ownsRow_below hown hb1
        have hs1 := hb1.size
        clear hown hbox hb0
        go_wp2
        refine ⟨⟨j + 1, by omega, by go_num, ?_, sa, sc, ?_, ?_⟩, by simp [intOf]; omega⟩
        · exact hb.trans (hb1.mono hsz)
        · rw [HS.out]
        · rw [HS.out]; exact hown1
    · have hj5 : j = 5 := by omega
      subst hj5
      have hown2 := ownsRow_mono hown (Nat.le_succ w.heap.size)
      have hmem : membersTo ws 5 = members ws := rfl
      rw [hmem] at hown2
      simp only [hmem]
      clear hown hlen hmem
      go_wp2
      go_ret
      exact ⟨sa, sc, rfl, hb0, hown2⟩
end Go.Proofs.YtekbjlhbjcikdaaGreat
