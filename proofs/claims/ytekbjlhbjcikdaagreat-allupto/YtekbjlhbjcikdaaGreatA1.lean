/-
  accordlaw: walk of goes: what the iterator tells, held against the document's answer.
-/
import Derived.Test.YtekbjlhbjcikdaaGreatI3
import Derived.Test.YtekbjlhbjcikdaaGreatRM1
import Derived.Maps.AppendAt
import Derived.Maps.OwnIn
import Derived.Deep.RegionHeld3
import Derived.BigQuiet
import Derived.Deep.QuietTactic
namespace Go.Proofs.YtekbjlhbjcikdaaGreat
open Go.RowKit Go.Shelf Acc

attribute [local go_sem] Oper.semAt_some

/-- The block of the slice that lies in a box. -/
def GoesIn (B : Nat) (W : World) (b : Nat) : Prop := ∃ o n c, W.cell? ⟨B, 0, none⟩ = some (.slice (some ⟨b, o, none⟩) n c)
def GoesT (B1 B2 : Nat) (W : World) (b : Nat) : Prop := GoesIn B1 W b ∨ GoesIn B2 W b

theorem goesT_of_own {B1 B2 B : Nat} {W : World} {v : Value} {b : Nat} (hB : B = B1 ∨ B = B2) (hc : W.cell? ⟨B, 0, none⟩ = some v) (hs : ∃ a n c, v = .slice a n c ∧ ∀ x, a = some x → x.spot = none) (hb : v.ownBlock = some b) : GoesT B1 B2 W b := by
  obtain ⟨a, n, c, rfl, hp⟩ := hs
  cases a with
  | none => simp [Value.ownBlock] at hb
  | some x =>
    obtain ⟨g, o, q⟩ := x
    have := hp _ rfl
    simp only at this
    subst this
    simp [Value.ownBlock] at hb
    subst hb
    rcases hB with rfl | rfl
    · exact .inl ⟨o, n, c, hc⟩
    · exact .inr ⟨o, n, c, hc⟩

/-- One of the two boxes has got another list: what the rounds have to keep they keep. -/
theorem kept_put {n₀ B1 B2 B : Nat} {W W' : World} {v v' : Value} (hB : B = B1 ∨ B = B2) (hs : W.heap.size ≤ W'.heap.size) (hc : W.cell? ⟨B, 0, none⟩ = some v) (hc' : W'.cell? ⟨B, 0, none⟩ = some v')
    (hv : ∃ a n c, v = .slice a n c ∧ ∀ x, a = some x → x.spot = none) (ho : ∀ B', (B' = B1 ∨ B' = B2) → B' ≠ B → W'.cell? ⟨B', 0, none⟩ = W.cell? ⟨B', 0, none⟩)
    (hk : ∀ b, n₀ ≤ b → b < W.heap.size → some b ≠ v.ownBlock → W'.heap[b]? = W.heap[b]?) (hn : v'.ownBlock = v.ownBlock ∨ ∃ k, v'.ownBlock = some k ∧ W.heap.size ≤ k) : Kept n₀ (GoesT B1 B2) W W' := by
  refine ⟨hs, fun b c t z hb hcell hT => ?_⟩
  have hlt := (Array.getElem?_eq_some_iff.1 hcell).1
  have hne : some b ≠ v.ownBlock := fun e => hT (goesT_of_own hB hc hv e.symm)
  refine ⟨hk b hb hlt hne, ?_⟩
  have hone : ∀ B', (B' = B1 ∨ B' = B2) → GoesIn B' W' b → False := by
    rintro B' hB' ⟨o, n, c, hcc⟩
    by_cases e : B' = B
    · subst e
      rw [hc'] at hcc
      cases hcc
      rcases hn with hn | ⟨k, hk1, hk2⟩
      · exact hne hn
      · simp only [Value.ownBlock, Option.some.injEq] at hk1
        omega
    · rw [ho B' hB' e] at hcc
      rcases hB' with rfl | rfl
      · exact hT (.inl ⟨o, n, c, hcc⟩)
      · exact hT (.inr ⟨o, n, c, hcc⟩)
  rintro (h | h)
  · exact hone B1 (.inl rfl) h
  · exact hone B2 (.inr rfl) h

theorem goesT_kept {n₀ B1 B2 : Nat} {W W' : World} (hs : W.heap.size ≤ W'.heap.size) (h1 : W'.cell? ⟨B1, 0, none⟩ = W.cell? ⟨B1, 0, none⟩) (h2 : W'.cell? ⟨B2, 0, none⟩ = W.cell? ⟨B2, 0, none⟩)
    (hk : ∀ (b : Nat) (c : Array Value) (t : TypeId) (z : Nat × Nat), n₀ ≤ b → W.heap[b]? = some (Obj.cells c t z) → W'.heap[b]? = W.heap[b]?) : Kept n₀ (GoesT B1 B2) W W' := by
  refine ⟨hs, fun b c t z hb hcell hT => ⟨hk b c t z hb hcell, ?_⟩⟩
  rintro (⟨o, n, c, h⟩ | ⟨o, n, c, h⟩)
  · exact hT (.inl ⟨o, n, c, h1 ▸ h⟩)
  · exact hT (.inr ⟨o, n, c, h2 ▸ h⟩)

/-- A block of another type lies as it lay behind an append into a box. -/
theorem app_keep {W w1 : World} {base size k B : Nat} {e : TypeId} {v v' : Value} {xs : List Value} {tmp : Obj} (hrow : W.ownsRow base e size v k xs) (hgrow : (W.alloc tmp).grownBy w1 v.ownBlock) {b : Nat} {c : Array Value} {t : TypeId} {z : Nat × Nat} (hb : W.heap[b]? = some (Obj.cells c t z)) (ht : t ≠ e) (hbB : b ≠ B) :
    (w1.setCell ⟨B, 0, none⟩ v').heap[b]? = some (Obj.cells c t z) := by
  have hlt := (Array.getElem?_eq_some_iff.1 hb).1
  have h1 : w1.heap[b]? = (W.alloc tmp).heap[b]? := hgrow.block b (by simp; omega) (fun e' => by
    rcases hrow.2 with ⟨rfl, _⟩ | ⟨g, cap, cur, rfl, _, hgb, _⟩
    · simp [Value.ownBlock] at e'
    · simp only [Value.ownBlock, Option.some.injEq] at e'
      subst e'
      rw [hgb] at hb
      cases hb
      exact ht rfl)
  rw [block_setCell (fun e => hbB (by simpa using e)), h1, Below.heap_alloc _ _ _ hlt]
  exact hb

theorem row_framed {W W' : World} {base size k : Nat} {e : TypeId} {v : Value} {xs : List Value} (h : W.ownsRow base e size v k xs) (hf : ∀ (g : Nat) (c : Array Value) (z : Nat × Nat), W.heap[g]? = some (Obj.cells c e z) → W'.heap[g]? = some (Obj.cells c e z)) : W'.ownsRow base e size v k xs := by
  refine ⟨h.1, ?_⟩
  rcases h.2 with hn | ⟨g, cap, cur, rfl, hb, hgg, rest⟩
  · exact .inl hn
  · exact .inr ⟨g, cap, cur, rfl, hb, hf g _ _ hgg, rest⟩

theorem row_slice {W : World} {base size k : Nat} {e : TypeId} {v : Value} {xs : List Value} (h : W.ownsRow base e size v k xs) : ∃ a c, v = .slice a k c ∧ ∀ x, a = some x → x.spot = none := by
  rcases h.2 with ⟨rfl, rfl⟩ | ⟨g, cap, cur, rfl, _⟩
  · exact ⟨none, 0, rfl, fun x hx => by cases hx⟩
  · exact ⟨_, cap, rfl, fun x hx => by cases hx; rfl⟩

theorem kept_app {n₀ B1 B2 B base size k : Nat} {t e : TypeId} {W w3 : World} {v v' : Value} {xs : List Value} {tmp : Obj} (hB : B = B1 ∨ B = B2) (hBn : B < n₀) (hv : Boxed W B t v) (hv' : Boxed (w3.setCell ⟨B, 0, none⟩ v') B t v') (hrow : W.ownsRow base e size v k xs) (hgrow : (W.alloc tmp).grownBy w3 v.ownBlock)
    (ho : ∀ B', (B' = B1 ∨ B' = B2) → B' ≠ B → (w3.setCell ⟨B, 0, none⟩ v').cell? ⟨B', 0, none⟩ = W.cell? ⟨B', 0, none⟩) (hn : v'.ownBlock = v.ownBlock ∨ v'.ownBlock = some (W.alloc tmp).heap.size) : Kept n₀ (GoesT B1 B2) W (w3.setCell ⟨B, 0, none⟩ v') := by
  obtain ⟨a, c, rfl, hsp⟩ := row_slice hrow
  refine kept_put hB (by have := hgrow.size; simp [World.setCell] at this ⊢; omega) hv.cell hv'.cell ⟨a, k, c, rfl, hsp⟩ ho (fun b hb hlt hne => ?_) ?_
  · rw [block_setCell (fun e => by simp only at e; omega), hgrow.block b (by simp; omega) hne]
    exact Below.heap_alloc _ _ _ hlt
  · rcases hn with hn | hn
    · exact .inl hn
    · exact .inr ⟨_, hn, by simp⟩

theorem _root_.Acc.St.recs_get (s : St) {j n i : Nat} {x : Nat × Nat} (hj : j < n) (hx : (s.log j)[i]? = some x) : (s.recs n)[(s.recs j).length + i]? = some (j, x) := by
  have h := s.recs_prefix (k := i + 1) hj
  rw [take_succ_map _ _ _ _ hx, ← List.append_assoc] at h
  obtain ⟨t, ht⟩ := h
  have hi := (List.getElem?_eq_some_iff.1 hx).1
  rw [← ht, List.getElem?_append_left (by simp; omega), List.getElem?_append_right (by simp; omega)]
  simp [Nat.min_eq_left (Nat.le_of_lt hi)]

theorem cells_two_new (w : World) (x y : Value) (t : TypeId) : ∀ j u, [x, y][j]? = some u → (w.alloc (Obj.cells #[x, y] t)).cell? ((⟨w.heap.size, 0, none⟩ : Addr).add j) = some u := by
  intro j u hj
  match j, hj with
  | 0, hj => simp at hj; subst hj; simp [go_sem, Addr.add]
  | 1, hj => simp at hj; subst hj; simp [go_sem, Addr.add]
  | j + 2, hj => simp at hj

/-- What has come lies in the two lists. -/
def GoesI (b0 most : Nat) (w1 : World) (pre : List (Nat × (Nat × Nat))) (W : World) : Prop :=
  (∃ v1, Boxed W b0 56 v1 ∧ W.ownsRow b0 3 1 v1 pre.length (pre.map fun x => Value.int .i64 (x.1 : Int)) ∧ True) ∧ (∃ v2, Boxed W (b0 + 1) 33 v2 ∧ W.ownsRow b0 43 2 v2 pre.length (recCells (pre.map fun x => x.2)) ∧ True) ∧ pre.length ≤ most ∧ Below b0 w1 W

/-- .. where a round has left. -/
def GoesX (b0 most : Nat) (w1 : World) (c : Code) (pre : List (Nat × (Nat × Nat))) (W : World) : Prop := c = .exit 0 ∧ ∃ q x, pre = q ++ [x] ∧ q.length = most ∧ GoesI b0 most w1 q W

theorem goesI_own {b0 most : Nat} {w1 : World} {B : Nat} (hB : b0 ≤ B) (h1 : b0 = w1.heap.size) : OwnFrom B (GoesI b0 most w1) := by
  rintro pre X Y row ⟨hx, hy, hl, hb⟩ hg hr
  refine ⟨?_, ?_, hl, ?_⟩
  · exact holdsRow_own b0 b0 56 3 1 (fun pre : List (Nat × (Nat × Nat)) => pre.length) (fun pre => pre.map fun x => Value.int .i64 (x.1 : Int)) (fun _ _ => True) pre X Y row hx hg (fun r e => (hr r e).2)
  · exact holdsRow_own b0 (b0 + 1) 33 43 2 (fun pre : List (Nat × (Nat × Nat)) => pre.length) (fun pre => recCells (pre.map fun x => x.2)) (fun _ _ => True) pre X Y row hy hg (fun r e => (hr r e).2)
  · exact ownFrom_below (β := Unit) (w₀ := w1) (by omega) hB () X Y row hb hg hr

set_option maxRecDepth 100000 in
set_option maxHeartbeats 2000000 in
theorem goes_any {w : World} {L : Lay} {Y : RLay} {r : RSt} (h : RepW w L r.st) (hk : Ok r.st) (hy : RRep w Y r) (most : Nat) (hm : most < 40) :
    Calls Tryz.prog 115 #[.agg #[.pointer (some ⟨L.wb, 0, none⟩), .pointer (some ⟨Y.yb, 0, none⟩)], .int .i64 (most : Int)] w fun e w' => e = .returned (.bool true) ∧ Below w.heap.size w w' := by
  obtain ⟨i0, hi0, hz0, hz1, hz2⟩ := info_parts Tryz.infoInt
  obtain ⟨j0, hj0, hj1, hj2, hj3⟩ := info_parts Tryz.infoRec
  refine (callsIn_wide (n := 3)).1 ?_
  refine callsIn_of_wp_marks Tryz.func115 rfl trivial ?_ rfl
  simp only [Tryz.ntmps115, List.size_toArray, List.length_cons, List.length_nil, Nat.reduceAdd, Nat.reduceSub, Array.replicate_succ, Array.replicate_zero, List.push_toArray, List.append_toArray, List.nil_append, List.cons_append]
  have hbA := (below_alloc w (Obj.cells #[.pointer (some ⟨L.wb, 0, none⟩), .pointer (some ⟨Y.yb, 0, none⟩)] 105)).more (below_alloc _ (Obj.cells #[.int .i64 (most : Int)] 3))
  gi_wp2
  have p0 : ((w.alloc (Obj.cells #[.pointer (some ⟨L.wb, 0, none⟩), .pointer (some ⟨Y.yb, 0, none⟩)] 105)).alloc (Obj.cells #[.int .i64 (most : Int)] 3)).cell? ⟨w.heap.size, 1, none⟩ = some (.pointer (some ⟨Y.yb, 0, none⟩)) := by simp [go_sem]
  have p1 : ((w.alloc (Obj.cells #[.pointer (some ⟨L.wb, 0, none⟩), .pointer (some ⟨Y.yb, 0, none⟩)] 105)).alloc (Obj.cells #[.int .i64 (most : Int)] 3)).cell? ⟨w.heap.size + 1, 0, none⟩ = some (.int .i64 (most : Int)) := by simp [go_sem]
  have hsA : ((w.alloc (Obj.cells #[.pointer (some ⟨L.wb, 0, none⟩), .pointer (some ⟨Y.yb, 0, none⟩)] 105)).alloc (Obj.cells #[.int .i64 (most : Int)] 3)).heap.size = w.heap.size + 2 := by simp
  generalize (w.alloc (Obj.cells #[.pointer (some ⟨L.wb, 0, none⟩), .pointer (some ⟨Y.yb, 0, none⟩)] 105)).alloc (Obj.cells #[.int .i64 (most : Int)] 3) = wA at *
  refine ⟨trivial, (callsIn_wide.2 (records_any wA L.wb)).mono ?_⟩
  rintro e w1 ⟨rfl, hb1, hBr⟩
  have hs1 := hb1.size
  have hB1 : Below w.heap.size w w1 := hbA.more hb1
  have h1 := h.below hB1
  have hy1 := hy.below hB1
  have p0 := (hb1.cell (p := ⟨w.heap.size, 1, none⟩) (by show w.heap.size < _; omega)).trans p0
  have p1 := (hb1.cell (p := ⟨w.heap.size + 1, 0, none⟩) (by show w.heap.size + 1 < _; omega)).trans p1
  clear h hy hbA
  have hnil : ∀ (w : World) (b : Nat), (binOp BinOp.eql 59 (.func (.func 62) #[] #[.pointer (some ⟨b, 0, none⟩)]) .nilFunc).run Tryz.prog w = .ok (.bool false) w := fun _ _ => by kernel_rfl
  rw [hsA] at hBr hs1 ⊢
  clear hb1 hsA
  gi_wp2
  rename_i K hK
  have hB2 := (below_alloc w1 (Obj.cells #[.slice none 0 0] 56)).more (below_alloc _ (Obj.cells #[.slice none 0 0] 33))
  have bx1 := (Boxed.new w1 56 (.slice none 0 0)).alloc (Obj.cells #[.slice none 0 0] 33)
  have bx2 := Boxed.new (w1.alloc (Obj.cells #[.slice none 0 0] 56)) 33 (.slice none 0 0)
  rw [World.size_alloc] at bx2
  have hs2 : ((w1.alloc (Obj.cells #[.slice none 0 0] 56)).alloc (Obj.cells #[.slice none 0 0] 33)).heap.size = w1.heap.size + 2 := by simp
  have hBr2 := (hB2.cell (p := ⟨w.heap.size + 2, 0, none⟩) (World.block_lt_of_cell? w1 _ hBr)).trans hBr
  generalize (w1.alloc (Obj.cells #[.slice none 0 0] 56)).alloc (Obj.cells #[.slice none 0 0] 33) = w2 at *
  obtain ⟨b0, hb0⟩ : ∃ b0, w1.heap.size = b0 := ⟨_, rfl⟩
  obtain ⟨fv, hfv⟩ : ∃ fv, Value.func (.func 62) #[] #[.pointer (some ⟨w.heap.size + 2, 0, none⟩)] = fv := ⟨_, rfl⟩
  rw [hb0] at bx1 bx2 hs2
  have HREST : ∀ D W, w2.heap.size ≤ D → GoesI b0 most w1 ((r.st.recs (r.st.parts + 1)).take most) W → W.heap[D]? = some (.deferred (some [])) → K { tmps := #[.agg #[.pointer (some ⟨L.wb, 0, none⟩), .pointer (some ⟨Y.yb, 0, none⟩)], .int .i64 (most : Int), .pointer (some ⟨w.heap.size, 0, none⟩), .pointer (some ⟨w.heap.size + 1, 0, none⟩), .bool false, fv, .pointer (some ⟨b0, 0, none⟩), .pointer (some ⟨b0 + 1, 0, none⟩), undef, undef, undef, undef, undef, .pointer (some ⟨w.heap.size, 0, none⟩), .pointer (some ⟨L.wb, 0, none⟩), fv, fv, .bool false, fv, undef, undef, undef, undef, undef, undef, undef, undef, undef, undef, undef, undef, undef, undef, undef, undef, undef, undef, undef, undef, undef, undef, undef, undef, undef, undef, undef, undef, undef, undef, undef, undef, undef, undef, undef, undef, undef, undef, undef, undef, undef, undef, undef, undef, undef, undef, undef, undef, undef, undef, undef, undef, undef, undef, undef, undef, undef, undef, undef, undef, undef, undef, undef, undef, undef, undef, undef, undef, undef, undef, undef, undef, undef, undef, undef, undef, undef, undef, undef, undef], defers := [{ target := .collected D, args := #[] }] } W := by
    rintro D W hD ⟨⟨v1, hv1, hr1, _⟩, ⟨v2, hv2, hr2, _⟩, hlm, hBW⟩ hKD
    refine hK _ _ (wpIn_wide.2 ?_)
    obtain ⟨a1, k1, rfl, hsp1⟩ := row_slice hr1
    obtain ⟨a2, k2, rfl, hsp2⟩ := row_slice hr2
    have p1 := (hBW.cell (p := ⟨w.heap.size + 1, 0, none⟩) (by show w.heap.size + 1 < _; omega)).trans p1
    have p0 := (hBW.cell (p := ⟨w.heap.size, 1, none⟩) (by show w.heap.size < _; omega)).trans p0
    have hyW := hy1.below (by rw [hb0]; exact hBW)
    have c1 := hv1.cell
    have c2 := hv2.cell
    have hp5 := hk.inv.p5
    have hlenT : ((r.st.recs (r.st.parts + 1)).take most).length = min most (r.st.recs (r.st.parts + 1)).length := by simp
    have HTK := hide (fun j i x (hj : j < r.st.parts + 1) (hx : (r.st.log j)[i]? = some x) (hl : (r.st.recs j).length + i < most) => show ((r.st.recs (r.st.parts + 1)).take most)[(r.st.recs j).length + i]? = some (j, x) from by rw [List.getElem?_take_of_lt hl]; exact r.st.recs_get hj hx)
    have HSU := hide (fun j => show (r.st.recs (j + 1)).length = (r.st.recs j).length + (r.st.log j).length from by rw [St.recs_succ]; simp)
    have H24 := hide hk.inv.len
    have hr1 : Owns W 3 1 ⟨a1, _, k1⟩ _ := ownsRow_mono hr1 (Nat.zero_le _)
    have hr2 : Owns W 43 2 ⟨a2, _, k2⟩ _ := ownsRow_mono hr2 (Nat.zero_le _)
    have HR1 := hide hr1
    have HR2 := hide hr2
    clear hr1 hr2 hv1 hv2 hlm
    generalize (r.st.recs (r.st.parts + 1)).take most = tk at *
    generalize hRR : (r.st.recs (r.st.parts + 1)).length = RR at hlenT
    have HRR := hide hRR
    generalize htl : tk.length = tl at *
    have HTL := hide htl
    have HLT := hide hlenT
    clear hRR htl hlenT
    have hpr : r.st.parts = r.parts := rfl
    rw [hpr] at HRR HTK hp5
    clear hpr
    go_wp2_with fail
    go_loopw [10, 11] (fun k n wr => ∃ j : Nat, j ≤ r.parts + 1 ∧ n = .int .i64 (j : Int) ∧ k = .int .i64 ((min most (r.st.recs j).length : Nat) : Int) ∧ Below W.heap.size W wr) (fun _ n _ => r.parts + 1 - (intOf n).toNat)
    case atStart => exact ⟨0, Nat.zero_le _, rfl, by simp [St.recs], Below.refl _ _⟩
    case round =>
      obtain ⟨j, hj, rfl, rfl, hbr⟩ := hrel
      rename World => wo
      have hyr := hyW.below hbr
      have y0 := hyr.y0
      have x1 := (hbr.cell (p := ⟨w.heap.size + 1, 0, none⟩) (World.block_lt_of_cell? W _ p1)).trans p1
      have x0 := (hbr.cell (p := ⟨w.heap.size, 1, none⟩) (World.block_lt_of_cell? W _ p0)).trans p0
      have d1 := (hbr.cell (p := ⟨b0, 0, none⟩) (World.block_lt_of_cell? W _ c1)).trans c1
      have d2 := (hbr.cell (p := ⟨b0 + 1, 0, none⟩) (World.block_lt_of_cell? W _ c2)).trans c2
      by_cases hjl : j < r.parts + 1
      · have hji : (j : Int) < (r.parts : Int) + 1 := by omega
        have hsu := unhide HSU j
        have h24 := unhide H24 j
        have hown := hyr.ol j (by omega)
        have q2 := hyr.n2 j (by omega)
        obtain ⟨la, ln, lc, hlv⟩ : ∃ la ln lc, Y.lv j = ⟨la, ln, lc⟩ := ⟨_, _, _, rfl⟩
        rw [hlv] at hown q2
        have hln : ln = (r.st.log j).length := by
          have := hown.len
          rw [recCells_length] at this
          have : (r.nd j).log.length = ln := by simp only at this; omega
          exact this.symm
        have HOW := hide hown
        have HTj := hide (fun i x (hx : (r.st.log j)[i]? = some x) => unhide HTK j i x hjl hx)
        rw [← hln] at hsu h24
        have hac := hyr.ac
        generalize (r.st.recs j).length = Rj at *
        have HLN := hide hln
        have HSJ := hide hsu
        clear hlv hown hln HTK HSU hsu
        go_wp2_with fail
        go_loopw [10, 12] (fun k i wi => ∃ c : Nat, c ≤ ln ∧ i = .int .i64 (c : Int) ∧ min most Rj + c ≤ most ∧ k = .int .i64 ((min most Rj + c : Nat) : Int) ∧ Below wo.heap.size wo wi) (fun _ i _ => ln - (intOf i).toNat)
        case atStart => exact ⟨0, Nat.zero_le _, rfl, by omega, rfl, Below.refl _ _⟩
        case round =>
          obtain ⟨c, hc, rfl, hcm, rfl, hbi⟩ := hrel
          have y0 := (hbi.cell (p := ⟨Y.yb, 0, none⟩) (World.block_lt_of_cell? wo _ y0)).trans y0
          have x1 := (hbi.cell (p := ⟨w.heap.size + 1, 0, none⟩) (World.block_lt_of_cell? wo _ x1)).trans x1
          have x0 := (hbi.cell (p := ⟨w.heap.size, 1, none⟩) (World.block_lt_of_cell? wo _ x0)).trans x0
          have d1 := (hbi.cell (p := ⟨b0, 0, none⟩) (World.block_lt_of_cell? wo _ d1)).trans d1
          have d2 := (hbi.cell (p := ⟨b0 + 1, 0, none⟩) (World.block_lt_of_cell? wo _ d2)).trans d2
          have q2 := (hbi.cell (p := ⟨Y.ab, j * 4 + 2, none⟩) (World.block_lt_of_cell? wo _ q2)).trans q2
          by_cases hcl : c < ln ∧ min most Rj + c < most
          · obtain ⟨hcl, hkm⟩ := hcl
            have hci : (c : Int) < (ln : Int) := by omega
            have hRj : min most Rj = Rj := by omega
            rw [hRj] at hkm hcm ⊢
            have hkmi : ((Rj + c : Nat) : Int) < (most : Int) := by omega
            obtain ⟨x, hx⟩ : ∃ x, (r.st.log j)[c]? = some x := ⟨_, List.getElem?_eq_getElem (by rw [← unhide HLN]; exact hcl)⟩
            have htx := unhide HTj c x hx hkm
            have hktl : Rj + c < tl := by rw [← unhide HTL]; exact (List.getElem?_eq_some_iff.1 htx).1
            have hkti : ((Rj + c : Nat) : Int) < (tl : Int) := by omega
            obtain ⟨g1, e1, hk1, _, hC1⟩ := (unhide HR1).at (by simp; omega)
            obtain ⟨g2, e2, hk2, _, hC2⟩ := (unhide HR2).at (by simp; omega)
            obtain ⟨gl, el, hkl, _, hCl⟩ := (unhide HOW).at (by simp; omega)
            simp only at e1 e2 el hk1 hk2 hkl
            subst e1 e2 el
            have u0 : W.cell? ⟨g1, Rj + c, none⟩ = some (.int .i64 (j : Int)) := hC1 _ _ (by rw [List.getElem?_map, htx]; rfl)
            have htx2 : (tk.map fun x => x.2)[Rj + c]? = some x := by rw [List.getElem?_map, htx]; rfl
            have u1 : W.cell? ⟨g2, (Rj + c) * 2, none⟩ = some (.int .i64 (x.1 : Int)) := hC2 _ _ (recCells_at htx2).1
            have u2 : W.cell? ⟨g2, (Rj + c) * 2 + 1, none⟩ = some (.int .i64 (x.2 : Int)) := hC2 _ _ (recCells_at htx2).2
            have u3 : wo.cell? ⟨gl, c * 2, none⟩ = some (.int .i64 (x.1 : Int)) := hCl _ _ (recCells_at hx).1
            have u4 : wo.cell? ⟨gl, c * 2 + 1, none⟩ = some (.int .i64 (x.2 : Int)) := hCl _ _ (recCells_at hx).2
            have hbWi := hbr.more hbi
            have u0 := (hbWi.cell (p := ⟨g1, Rj + c, none⟩) (World.block_lt_of_cell? W _ u0)).trans u0
            have u1 := (hbWi.cell (p := ⟨g2, (Rj + c) * 2, none⟩) (World.block_lt_of_cell? W _ u1)).trans u1
            have u2 := (hbWi.cell (p := ⟨g2, (Rj + c) * 2 + 1, none⟩) (World.block_lt_of_cell? W _ u2)).trans u2
            have u3 := (hbi.cell (p := ⟨gl, c * 2, none⟩) (World.block_lt_of_cell? wo _ u3)).trans u3
            have u4 := (hbi.cell (p := ⟨gl, c * 2 + 1, none⟩) (World.block_lt_of_cell? wo _ u4)).trans u4
            clear hC1 hC2 hCl htx htx2 hx hbWi
            generalize hkk : Rj + c = kk at *
            have HKK := hide hkk
            clear hkk
            have hge : decide ((tl : Int) ≤ (kk : Int)) = false := by simp; omega
            have hgn : decide (tl ≤ kk) = false := by simp; omega
            go_wp2_with fail
            go_region_held3 (fun w' => w'.cell? ⟨b0, 0, none⟩ = some (.slice (some ⟨g1, 0, none⟩) tl k1) ∧ w'.cell? ⟨b0 + 1, 0, none⟩ = some (.slice (some ⟨g2, 0, none⟩) tl k2) ∧ w'.cell? ⟨g1, kk, none⟩ = some (.int .i64 (j : Int)) ∧ w'.cell? ⟨g2, kk * 2, none⟩ = some (.int .i64 (x.1 : Int)) ∧ w'.cell? ⟨g2, kk * 2 + 1, none⟩ = some (.int .i64 (x.2 : Int)) ∧ w'.cell? ⟨w.heap.size, 1, none⟩ = some (.pointer (some ⟨Y.yb, 0, none⟩)) ∧ w'.cell? ⟨Y.yb, 0, none⟩ = some (.slice (some ⟨Y.ab, 0, none⟩) (r.parts + 1) Y.ac) ∧ w'.cell? ⟨Y.ab, j * 4 + 2, none⟩ = some (.slice (some ⟨gl, 0, none⟩) ln lc) ∧ w'.cell? ⟨gl, c * 2, none⟩ = some (.int .i64 (x.1 : Int)) ∧ w'.cell? ⟨gl, c * 2 + 1, none⟩ = some (.int .i64 (x.2 : Int))) (go_keep) (fail)
            go_wp2
            refine ⟨⟨c + 1, by omega, by go_num, by have := unhide HKK; omega, ?_, hbi.drew⟩, by simp [intOf]; omega⟩
            exact congrArg (Value.int .i64) (by have := unhide HKK; omega)
          · have hfin : min most Rj + c = min most (r.st.recs (j + 1)).length := by rw [unhide HSJ]; omega
            by_cases hcl2 : c < ln
            · have hci : (c : Int) < (ln : Int) := by omega
              have hkm : ¬ ((min most Rj + c : Nat) : Int) < (most : Int) := by omega
              generalize min most Rj + c = kk at *
              go_wp2
              refine ⟨⟨j + 1, by omega, by go_num, by rw [hfin], hbr.more hbi⟩, by simp [intOf]; omega⟩
            · have hci : ¬ (c : Int) < (ln : Int) := by omega
              generalize min most Rj + c = kk at *
              go_wp2
              refine ⟨⟨j + 1, by omega, by go_num, by rw [hfin], hbr.more hbi⟩, by simp [intOf]; omega⟩
      · obtain rfl : j = r.parts + 1 := by omega
        rw [unhide HRR, ← unhide HLT]
        go_wp2
        have hKr := (hbr.block D (Array.getElem?_eq_some_iff.1 hKD).1).trans hKD
        refine ⟨by simp, .inl ⟨_, _, rfl, run_takeDeferred hKr, ?_⟩⟩
        refine ⟨_, results_tmp rfl _ _ _, rfl, ?_⟩
        have hBB : Below w.heap.size w wo := hB1.more ((hb0 ▸ hBW).more hbr)
        exact hBB.trans (belowK_b (w := w) (Nat.le_refl _) wo D _ _ (by have := hB1.size; omega) hKr rfl rfl)
  simp only [hb0, hfv]
  refine wpIn_rangeFunc_ownH (w0 := w2) rfl (by omega) (gf := 62) (lb := #[.pointer (some ⟨w.heap.size + 2, 0, none⟩)]) hfv.symm trivial (enters_of Tryz.func62 (by kernel_rfl) rfl)
    (rec_stops (n₀ := w2.heap.size) (T := GoesT b0 (b0 + 1)) (by omega) (h1.below (by rw [hb0]; exact hb0 ▸ hB2)) hk hBr2 (Nat.le_refl _) ?hT ?hTb) Kept.trans ?hKb (Below.refl _ _) (fun _ => rfl)
    (GoesI b0 most w1)
    (GoesX b0 most w1)
    (goesI_own (by omega) hb0.symm) ?hIx ?h0
    (fun x a' W => ∃ Bx, W.heap[Bx]? = some (.cells #[.int .i64 (x.2.1 : Int), .int .i64 (x.2.2 : Int)] 43 (0, 0)) ∧ a' = { tmps := #[.agg #[.pointer (some ⟨L.wb, 0, none⟩), .pointer (some ⟨Y.yb, 0, none⟩)], .int .i64 (most : Int), .pointer (some ⟨w.heap.size, 0, none⟩), .pointer (some ⟨w.heap.size + 1, 0, none⟩), .bool false, fv, .pointer (some ⟨b0, 0, none⟩), .pointer (some ⟨b0 + 1, 0, none⟩), .int .i64 (x.1 : Int), .pointer (some ⟨Bx, 0, none⟩), undef, undef, undef, .pointer (some ⟨w.heap.size, 0, none⟩), .pointer (some ⟨L.wb, 0, none⟩), fv, fv, .bool false, fv, .int .i64 (x.1 : Int), .agg #[.int .i64 (x.2.1 : Int), .int .i64 (x.2.2 : Int)], undef, undef, undef, undef, undef, undef, undef, undef, undef, undef, undef, undef, undef, undef, undef, undef, undef, undef, undef, undef, undef, undef, undef, undef, undef, undef, undef, undef, undef, undef, undef, undef, undef, undef, undef, undef, undef, undef, undef, undef, undef, undef, undef, undef, undef, undef, undef, undef, undef, undef, undef, undef, undef, undef, undef, undef, undef, undef, undef, undef, undef, undef, undef, undef, undef, undef, undef, undef, undef, undef, undef, undef, undef, undef, undef, undef, undef, undef], defers := [] }) ?hAx ?assign ?body ?done ?stop
  case hT =>
    rintro b hb W' hW' (⟨o, n, c, hc⟩ | ⟨o, n, c, hc⟩)
    · rw [(hW'.cell (p := ⟨b0, 0, none⟩) bx1.lt).trans bx1.cell] at hc; cases hc
    · rw [(hW'.cell (p := ⟨b0 + 1, 0, none⟩) bx2.lt).trans bx2.cell] at hc; cases hc
  case hTb =>
    rintro A B b hA hAB hn (⟨o, n, c, hc⟩ | ⟨o, n, c, hc⟩)
    · exact hn (.inl ⟨o, n, c, (hAB.cell (p := ⟨b0, 0, none⟩) (Nat.lt_of_lt_of_le bx1.lt hA)).symm.trans hc⟩)
    · exact hn (.inr ⟨o, n, c, (hAB.cell (p := ⟨b0 + 1, 0, none⟩) (Nat.lt_of_lt_of_le bx2.lt hA)).symm.trans hc⟩)
  case hKb =>
    intro W l o o' hl hlo hoc _
    have hne : ∀ b, b ≠ l → (W.putObj l o').heap[b]? = W.heap[b]? := fun b hb => by simp [World.putObj, Array.getElem?_setIfInBounds]; intro e; exact absurd e.symm hb
    refine goesT_kept (by simp [World.putObj]) (World.cell?_of_block (a := ⟨b0, 0, none⟩) (hne _ (by have := bx1.lt; show b0 ≠ l; omega))) (World.cell?_of_block (a := ⟨b0 + 1, 0, none⟩) (hne _ (by have := bx2.lt; show b0 + 1 ≠ l; omega))) fun b c t z hb hc => hne b ?_
    rintro rfl
    rw [hlo] at hc
    cases hc
    cases hoc
  case hIx =>
    rintro c pre X Y' row ⟨rfl, q, x, e, hq, hI⟩ hg hr
    exact ⟨rfl, q, x, e, hq, goesI_own (by omega) hb0.symm q X Y' row hI hg hr⟩
  case h0 =>
    refine ⟨⟨_, bx1, World.ownsRow_nil _ _ _ _, trivial⟩, ⟨_, bx2, World.ownsRow_nil _ _ _ _, trivial⟩, Nat.zero_le _, hb0 ▸ hB2⟩
  case hAx =>
    rintro x a' _ X Y' row ⟨Bx, hBx, rfl⟩ hg hr
    refine ⟨Bx, (hg.block Bx (Array.getElem?_eq_some_iff.1 hBx).1 fun e => ?_).trans hBx, rfl⟩
    obtain ⟨_, o, ho, hoc⟩ := hr _ e.symm
    rw [hBx] at ho
    cases ho
    cases hoc
  case assign =>
    rintro l pre x W K' hi hK'
    dsimp only [recEnc]
    gi_wp2
    have hba := below_alloc W (Obj.cells #[.int .i64 (x.2.1 : Int), .int .i64 (x.2.2 : Int)] 43)
    obtain ⟨⟨v1, hv1, _⟩, ⟨v2, hv2, _⟩, _⟩ := id hi
    refine hK' _ _ ((KeepsOthers.alloc _ _).from _) (goesT_kept hba.size (hba.cell (p := ⟨b0, 0, none⟩) hv1.lt) (hba.cell (p := ⟨b0 + 1, 0, none⟩) hv2.lt) fun b c t z _ hc => hba.block b (Array.getElem?_eq_some_iff.1 hc).1) ((goesI_own (B := w2.heap.size) (by omega) hb0.symm).alloc _ hi) ⟨W.heap.size, World.alloc_heap_new W _, rfl⟩
  case body =>
    rintro l pre x a' W hl hr ⟨⟨v1, hv1, hr1, _⟩, ⟨v2, hv2, hr2, _⟩, hlm, hBW⟩ ⟨Bx, hBx, rfl⟩ hlt
    obtain ⟨a1, k1, rfl, hsp1⟩ := row_slice hr1
    obtain ⟨a2, k2, rfl, hsp2⟩ := row_slice hr2
    have c1 := hv1.cell
    have c2 := hv2.cell
    have z1 := hv1.frozen
    have z2 := hv2.frozen
    have p1 := (hBW.cell (p := ⟨w.heap.size + 1, 0, none⟩) (by show w.heap.size + 1 < _; omega)).trans p1
    by_cases hlm2 : pre.length = most
    · have hI : GoesI b0 most w1 pre W := ⟨⟨_, hv1, hr1, trivial⟩, ⟨_, hv2, hr2, trivial⟩, hlm, hBW⟩
      rw [hlm2] at c2
      gi_wp2
      exact ⟨KeepsFrom.refl _ _, rfl, pre, x, rfl, hlm2, hI⟩
    · have hlmi : ¬ (pre.length : Int) = (most : Int) := by omega
      have hszW := hBW.size
      have hBb : Bx ≠ b0 := by rintro rfl; have := (show W.heap[Bx]? = _ from hv1).symm.trans hBx; simp at this
      gi_wp2_with (first
        | (gi_at_builtin; refine wpListIn_append_own_at _ rfl _ _ 56 rfl b0 3 i0 (.int .i64 0) 1 8 Tryz.underlying56 hi0 hz0 hz1 hz2 rfl (by decide) _ _ _ rfl (hr1.alloc _) ⟨W.heap.size, 0, none⟩ 1 1 [.int .i64 (x.1 : Int)] rfl rfl (cell_one_new _ _ _) (by simp [Value.oneCell']) (by unfold maxLen; omega) (by omega) (by simp; omega) ?_; intro v1' w3 hown1 hgrow1 _ hnew1; obtain ⟨g1, d1, rfl⟩ := ownsRow_succ hown1; obtain ⟨hv1a, hv1b, hr1b, hko1, hbe1⟩ := hv1.appended (by decide) hr1 (by omega) (Nat.le_refl _) hown1 hgrow1; have c1a := hv1a.cell; have z1a := hv1a.frozen
           have hv2b : Boxed (w3.setCell ⟨b0, 0, none⟩ (.slice (some ⟨g1, 0, none⟩) (pre.length + 1) d1)) (b0 + 1) 33 (.slice a2 pre.length k2) := app_keep hr1 hgrow1 hv2 (by decide) (by omega)
           have hBxb := app_keep (B := b0) (v' := .slice (some ⟨g1, 0, none⟩) (pre.length + 1) d1) hr1 hgrow1 hBx (by decide) hBb
           have hr2b : (w3.setCell ⟨b0, 0, none⟩ (.slice (some ⟨g1, 0, none⟩) (pre.length + 1) d1)).ownsRow b0 43 2 (.slice a2 pre.length k2) pre.length (recCells (pre.map fun x => x.2)) := row_framed hr2 (fun g c z hg => app_keep hr1 hgrow1 hg (by decide) (by rintro rfl; have := (show W.heap[g]? = _ from hv1).symm.trans hg; simp at this))
           have hs3 := hbe1.size
           have q0 : (w3.setCell ⟨b0, 0, none⟩ (.slice (some ⟨g1, 0, none⟩) (pre.length + 1) d1)).cell? ⟨Bx, 0, none⟩ = some (.int .i64 (x.2.1 : Int)) := by simp [World.cell?, hBxb]
           have q1 : (w3.setCell ⟨b0, 0, none⟩ (.slice (some ⟨g1, 0, none⟩) (pre.length + 1) d1)).cell? ⟨Bx, 1, none⟩ = some (.int .i64 (x.2.2 : Int)) := by simp [World.cell?, hBxb]
           have c2b := hv2b.cell
           have hcn : ∀ j u, [Value.int .i64 (x.2.1 : Int), .int .i64 (x.2.2 : Int)][j]? = some u → ((w3.setCell ⟨b0, 0, none⟩ (.slice (some ⟨g1, 0, none⟩) (pre.length + 1) d1)).alloc (Obj.cells #[.int .i64 (x.2.1 : Int), .int .i64 (x.2.2 : Int)] 43)).cell? ((⟨w3.heap.size, 0, none⟩ : Addr).add j) = some u := (by
             have := cells_two_new (w3.setCell ⟨b0, 0, none⟩ (.slice (some ⟨g1, 0, none⟩) (pre.length + 1) d1)) (.int .i64 (x.2.1 : Int)) (.int .i64 (x.2.2 : Int)) 43
             rwa [show (w3.setCell ⟨b0, 0, none⟩ (.slice (some ⟨g1, 0, none⟩) (pre.length + 1) d1)).heap.size = w3.heap.size from by simp [World.setCell]] at this))
        | (gi_at_builtin; refine wpListIn_append_own_at _ rfl _ _ 33 rfl b0 43 j0 (.agg #[.int .i64 0, .int .i64 0]) 2 16 Tryz.underlying33 hj0 hj1 hj2 hj3 rfl (by decide) _ _ _ rfl (hr2b.alloc _) ⟨w3.heap.size, 0, none⟩ 1 1 [.int .i64 (x.2.1 : Int), .int .i64 (x.2.2 : Int)] rfl rfl hcn (by simp [Value.oneCell']) (by unfold maxLen; omega) (by omega) (by rw [World.size_alloc]; omega) ?_; intro v2' w4 hown2 hgrow2 _ hnew2; obtain ⟨g2, d2, rfl⟩ := ownsRow_succ hown2; obtain ⟨hv2c, hv2d, hr2d, hko2, hbe2⟩ := hv2b.appended (by decide) hr2b (by omega) (by omega) hown2 hgrow2; have c2d := hv2c.cell; have z2d := hv2c.frozen))
      have hv1d : Boxed (w4.setCell ⟨b0 + 1, 0, none⟩ (.slice (some ⟨g2, 0, none⟩) (pre.length + 1) d2)) b0 56 (.slice (some ⟨g1, 0, none⟩) (pre.length + 1) d1) := app_keep hr2b hgrow2 hv1b (by decide) (by omega)
      have hr1d : (w4.setCell ⟨b0 + 1, 0, none⟩ (.slice (some ⟨g2, 0, none⟩) (pre.length + 1) d2)).ownsRow b0 3 1 (.slice (some ⟨g1, 0, none⟩) (pre.length + 1) d1) (pre.length + 1) ((pre.map fun x => Value.int .i64 (x.1 : Int)) ++ [.int .i64 (x.1 : Int)]) := row_framed hr1b (fun g c z hg => app_keep hr2b hgrow2 hg (by decide) (by rintro rfl; have := (show _ = _ from hv2b).symm.trans hg; simp at this))
      refine ⟨(hko1.trans hko2).from _, (kept_app (.inl rfl) (by omega) hv1 hv1b hr1 hgrow1 (fun B' hB' hne => ?_) hnew1).trans (kept_app (.inr rfl) (by omega) hv2b hv2d hr2b hgrow2 (fun B' hB' hne => ?_) hnew2), ⟨_, hv1d, ?_, trivial⟩, ⟨_, hv2d, ?_, trivial⟩, by simp; omega, hBW.trans (hbe1.trans hbe2)⟩
      · obtain rfl : B' = b0 + 1 := by omega
        rw [hv2b.cell, hv2.cell]
      · obtain rfl : B' = b0 := by omega
        rw [hv1d.cell, hv1b.cell]
      · simpa using hr1d
      · simpa [recCells_append, recCells] using hr2d
  case done =>
    rintro D xs W hD rfl hI hKD
    refine HREST D W hD ?_ hKD
    rw [List.take_of_length_le hI.2.2.1]
    exact hI
  case stop =>
    rintro D c pre W hD hp ⟨rfl, q, x, rfl, hq, hI⟩ hKD
    have he : (r.st.recs (r.st.parts + 1)).take most = q := by
      obtain ⟨t, ht⟩ := hp
      rw [← ht, List.append_assoc, ← hq, List.take_left]
    gi_wp2
    refine HREST D W hD ?_ hKD
    rw [he]
    exact hI
end Go.Proofs.YtekbjlhbjcikdaaGreat
