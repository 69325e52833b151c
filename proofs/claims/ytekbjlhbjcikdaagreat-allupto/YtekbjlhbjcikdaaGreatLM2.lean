/-
  L5, L6, one behind the other.
-/
import Derived.Test.YtekbjlhbjcikdaaGreatLM1
import Derived.Deep.DeepMust
import Derived.ArgAppend
import Derived.Deep.AppendLies
import Derived.Deep.RegionLaw
/-
  accordlaw: walk of ownMessages.
-/
namespace Go.Proofs.YtekbjlhbjcikdaaGreat
open Go.RowKit Acc

theorem Owns.setCell {w : World} {e size : Nat} {s : Sl} {xs : List Value} {g : Nat} (h : Owns w e size s xs) (ha : s.a = some ⟨g, 0, none⟩) (j : Nat) (v : Value) (_hj : j < xs.length) : Owns (w.setCell ⟨g, j, none⟩ v) e size s (xs.set j v) := by
  refine ⟨by rw [List.length_set]; exact h.1, ?_⟩
  rcases h.2 with ⟨hv, _⟩ | ⟨g', cap, cur, hv, h0, hg, h1, h2, h3, h4⟩
  · injection hv with e1; rw [ha] at e1; cases e1
  · have hv' := hv
    injection hv with e1 e2 e3
    rw [ha] at e1
    injection e1 with e1
    injection e1 with e1
    subst e1
    refine .inr ⟨g, cap, cur.setIfInBounds j v, hv', h0, ?_, h1, h2, by simpa using h3, ?_⟩
    · simp only [World.setCell, Array.getElem?_modify, if_true, hg, Option.map_some]
      simp
    · rw [← h4, Array.toList_setIfInBounds, List.take_set]
theorem Owns.setCell_ne {w : World} {e size : Nat} {s : Sl} {xs : List Value} {g j : Nat} (h : Owns w e size s xs) (hn : ∀ a, s.a = some a → a.block ≠ g) (v : Value) : Owns (w.setCell ⟨g, j, none⟩ v) e size s xs := h.frame fun a ha => block_setCell (hn a ha)
/-- A list whose first i elements are written over. -/
def overs (pat xs : List Value) (i : Nat) : List Value := rep pat i ++ xs.drop (i * pat.length)
theorem overs_zero (pat xs : List Value) : overs pat xs 0 = xs := by simp [overs, rep]
theorem overs_full (pat xs : List Value) (n : Nat) (h : xs.length = n * pat.length) : overs pat xs n = rep pat n := by
  unfold overs; rw [List.drop_of_length_le (by omega)]; simp
theorem overs_length (pat xs : List Value) (n i : Nat) (h : xs.length = n * pat.length) (hi : i ≤ n) : (overs pat xs i).length = n * pat.length := by
  unfold overs
  rw [List.length_append, rep_length, List.length_drop, h]
  have : i * pat.length ≤ n * pat.length := Nat.mul_le_mul_right _ hi
  omega
theorem overs_msg (m : Int) (xs : List Value) (n i : Nat) (h : xs.length = n * 4) (hi : i < n) :
    ((((overs (msgPat m) xs i).set (i * 4) (.int .i64 m)).set (i * 4 + 1) (.int .i64 m)).set (i * 4 + 2) (.int .i64 m)).set (i * 4 + 3) (.int .i64 m) = overs (msgPat m) xs (i + 1) := by
  obtain ⟨a, b, c, d, hd⟩ : ∃ a b c d, xs.drop (i * 4) = a :: b :: c :: d :: xs.drop ((i + 1) * 4) := by
    refine ⟨xs[i * 4]'(by omega), xs[i * 4 + 1]'(by omega), xs[i * 4 + 1 + 1]'(by omega), xs[i * 4 + 1 + 1 + 1]'(by omega), ?_⟩
    rw [List.drop_eq_getElem_cons (by omega), List.drop_eq_getElem_cons (by omega), List.drop_eq_getElem_cons (by omega), List.drop_eq_getElem_cons (by omega)]
    rw [show i * 4 + 1 + 1 + 1 + 1 = (i + 1) * 4 from by omega]
  have hl : (rep (msgPat m) i).length = i * 4 := rep_length _ _
  unfold overs
  rw [show (msgPat m).length = 4 from rfl, hd]
  have hs : ∀ (k : Nat) (v : Value) (r : List Value), (rep (msgPat m) i ++ r).set (i * 4 + k) v = rep (msgPat m) i ++ r.set k v := by
    intro k v r
    rw [List.set_append, if_neg (by omega), hl, show i * 4 + k - i * 4 = k from by omega]
  have hs0 : ∀ (v : Value) (r : List Value), (rep (msgPat m) i ++ r).set (i * 4) v = rep (msgPat m) i ++ r.set 0 v := fun v r => hs 0 v r
  rw [hs0, hs, hs, hs]
  simp [rep, msgPat]
theorem overs_rec (m : Int) (xs : List Value) (n i : Nat) (h : xs.length = n * 2) (hi : i < n) :
    ((overs (recPat m) xs i).set (i * 2) (.int .i64 m)).set (i * 2 + 1) (.int .i64 m) = overs (recPat m) xs (i + 1) := by
  obtain ⟨a, b, hd⟩ : ∃ a b, xs.drop (i * 2) = a :: b :: xs.drop ((i + 1) * 2) := by
    refine ⟨xs[i * 2]'(by omega), xs[i * 2 + 1]'(by omega), ?_⟩
    rw [List.drop_eq_getElem_cons (by omega), List.drop_eq_getElem_cons (by omega)]
    rw [show i * 2 + 1 + 1 = (i + 1) * 2 from by omega]
  have hl : (rep (recPat m) i).length = i * 2 := rep_length _ _
  unfold overs
  rw [show (recPat m).length = 2 from rfl, hd]
  have hs : ∀ (k : Nat) (v : Value) (r : List Value), (rep (recPat m) i ++ r).set (i * 2 + k) v = rep (recPat m) i ++ r.set k v := by
    intro k v r
    rw [List.set_append, if_neg (by omega), hl, show i * 2 + k - i * 2 = k from by omega]
  have hs0 : ∀ (v : Value) (r : List Value), (rep (recPat m) i ++ r).set (i * 2) v = rep (recPat m) i ++ r.set 0 v := fun v r => hs 0 v r
  rw [hs0, hs]
  simp [rep, recPat]

/-- From w on nothing has turned but the block g. -/
structure Only (g : Nat) (w w' : World) : Prop where
  os : w'.os = w.os
  tape : w'.tape = w.tape
  output : w'.output = w.output
  size : w.heap.size ≤ w'.heap.size
  keep : ∀ b, b < w.heap.size → b ≠ g → w'.heap[b]? = w.heap[b]?
theorem Only.refl (g : Nat) (w : World) : Only g w w := ⟨rfl, rfl, rfl, Nat.le_refl _, fun _ _ _ => rfl⟩
theorem Only.setCell {g : Nat} {w w' : World} (h : Only g w w') (j : Nat) (v : Value) : Only g w (w'.setCell ⟨g, j, none⟩ v) :=
  ⟨h.os, h.tape, h.output, by have := h.size; simpa [World.setCell] using this, fun b hb hn => (block_setCell hn).trans (h.keep b hb hn)⟩
theorem Only.below {g : Nat} {w w1 w2 : World} (h : Only g w w1) (hb : Below w1.heap.size w1 w2) : Only g w w2 :=
  ⟨hb.os.trans h.os, hb.tape.trans h.tape, hb.output.trans h.output, Nat.le_trans h.size hb.size, fun b hl hn => (hb.block b (Nat.lt_of_lt_of_le hl h.size)).trans (h.keep b hl hn)⟩
theorem LRep.only {w w' : World} {G : LLay} {S : LSt} {g : Nat} (h : LRep w G S) (ho : Only g w w') (hg : G.own g = some .fresh ∨ G.own g = none) : LRep w' G S :=
  h.frame ho.size fun b t hb ht => ho.keep b (h.lt b t hb) (fun e => by
    rw [e] at hb
    rcases hg with hg | hg <;> rw [hg] at hb
    · injection hb with hb; exact ht hb.symm
    · cases hb)
theorem Only.ext {w w' : World} {o : Nat → Option LTag} {g : Nat} (ho : Only g w w') (hg : o g ≠ none) : Ext o w o w' :=
  ⟨ho.os, ho.tape, ho.output, ho.size, fun b hb hn => ⟨ho.keep b hb (fun e => by rw [e] at hn; exact hg hn), hn⟩⟩

theorem owns_holds {w : World} {e size : Nat} {a : Option Addr} {n cap : Nat} {xs : List Value} (h : Owns w e size ⟨a, n, cap⟩ xs) : ∀ b, a = some b → ∀ j u, xs[j]? = some u → w.cell? (b.add j) = some u := by
  intro b hb j u hu
  rcases h.2 with ⟨hv, _⟩ | ⟨g, c, cur, hv, _⟩
  · injection hv with e1; simp only at e1; rw [hb] at e1; cases e1
  · have hv' := hv
    injection hv with e1 e2 e3
    simp only at e1 e3
    rw [hb] at e1
    injection e1 with e1
    subst e1
    exact (show w.ownsRow 0 e size (.slice (some ⟨g, 0, none⟩) n cap) n xs from by have := h; unfold Owns at this; simp only at this; rw [hb] at this; exact this).cells (g := g) rfl j u hu
theorem owns_none {w : World} {e size : Nat} {a : Option Addr} {n cap : Nat} {xs : List Value} (h : Owns w e size ⟨a, n, cap⟩ xs) : a = none → n = 0 ∧ cap = 0 := by
  intro ha
  rcases h.2 with ⟨hv, h0⟩ | ⟨g, c, cur, hv, _⟩
  · injection hv with e1 e2 e3; exact ⟨h0, e3⟩
  · injection hv with e1; simp only at e1; rw [ha] at e1; cases e1
theorem rep_one (m : Int) (k : Nat) : ∀ u ∈ rep (msgPat m) k, u.oneCell' = true := by
  induction k with
  | zero => intro u hu; simp [rep] at hu
  | succ k ih =>
    intro u hu
    simp only [rep, List.mem_append] at hu
    rcases hu with hu | hu
    · exact ih u hu
    · simp only [msgPat, List.mem_cons, List.not_mem_nil, or_false] at hu
      rcases hu with rfl | rfl | rfl | rfl <;> rfl
theorem Only.ext' {w w' : World} {o : Nat → Option LTag} {g : Nat} (ho : Only g w w') (hg : o g ≠ none ∨ w.heap.size ≤ g) : Ext o w o w' :=
  ⟨ho.os, ho.tape, ho.output, ho.size, fun b hb hn => ⟨ho.keep b hb (fun e => by
    rcases hg with hg | hg
    · rw [e] at hn; exact hg hn
    · omega), hn⟩⟩
theorem LRep.lb_ne {w : World} {G : LLay} {S : LSt} (h : LRep w G S) (k : Nat) (hk : k < 6) : some G.lb ≠ (Value.slice (G.sv k).a (G.sv k).n (G.sv k).cap).ownBlock := by
  intro e
  cases ha : (G.sv k).a with
  | none => rw [ha] at e; simp [Value.ownBlock] at e
  | some x =>
    rw [ha] at e
    simp only [Value.ownBlock, Option.some.injEq] at e
    have := h.ta k hk x ha
    rw [← e, h.tm] at this
    cases this
theorem new_cells_at2 (w : World) (l : List Value) (t : TypeId) (b : Nat) (hb : b = w.heap.size) : ∀ j u, l[j]? = some u → (w.alloc (.cells l.toArray t)).cell? ((⟨b, 0, none⟩ : Addr).add j) = some u := by subst hb; exact new_cells w l t
theorem Tryz.infoSlM : (Tryz.prog.info? 53).map (fun i => (i.zero, i.size, i.bytes)) = some (some (.slice none 0 0), 1, 24) := by kernel_rfl
theorem Tryz.infoSlC : (Tryz.prog.info? 33).map (fun i => (i.zero, i.size, i.bytes)) = some (some (.slice none 0 0), 1, 24) := by kernel_rfl
/-- The block of a slice, or d. -/
def gof (a : Option Addr) (d : Nat) : Nat := match a with | some x => x.block | none => d

theorem four_own {w : World} {G : LLay} {S : LSt} {b1 b2 b3 B j : Nat} {a s1 s2 s3 : Option Addr} {d1 d2 d3 : Nat} (m : Int) (_h : LRep w G S) (h0 : Owns w 109 4 ⟨a, j, j⟩ (rep (msgPat m) j)) (hf : ∀ x, a = some x → G.own x.block = some .fresh)
    (o1 : w.ownsRow b1 109 4 (.slice s1 (j + 1) d1) (j + 1) (rep (msgPat m) j ++ rep (msgPat m) 1)) (o2 : w.ownsRow b2 109 4 (.slice s2 (j + 2) d2) (j + 2) (rep (msgPat m) j ++ rep (msgPat m) 2)) (o3 : w.ownsRow b3 109 4 (.slice s3 (j + 3) d3) (j + 3) (rep (msgPat m) j ++ rep (msgPat m) 3))
    (e1 : B ≤ b1) (e2 : B ≤ b2) (e3 : B ≤ b3) (hfr : ∀ b, B ≤ b → G.own b = none) :
    (∀ t, t ∈ [(⟨a, j, j⟩ : Sl), ⟨s1, j + 1, d1⟩, ⟨s2, j + 2, d2⟩, ⟨s3, j + 3, d3⟩] → Owns w 109 4 t (rep (msgPat m) t.n)) ∧ (∀ t x, t ∈ [(⟨a, j, j⟩ : Sl), ⟨s1, j + 1, d1⟩, ⟨s2, j + 2, d2⟩, ⟨s3, j + 3, d3⟩] → t.a = some x → (G.own x.block = none ∧ B ≤ x.block) ∨ G.own x.block = some .fresh) := by
  rw [← rep_add] at o1 o2 o3
  constructor
  · intro t ht
    simp only [List.mem_cons, List.not_mem_nil, or_false] at ht
    rcases ht with rfl | rfl | rfl | rfl
    · exact h0
    · exact ownsRow_mono o1 (Nat.zero_le _)
    · exact ownsRow_mono o2 (Nat.zero_le _)
    · exact ownsRow_mono o3 (Nat.zero_le _)
  · intro t x ht hx
    simp only [List.mem_cons, List.not_mem_nil, or_false] at ht
    rcases ht with rfl | rfl | rfl | rfl
    · exact .inr (hf x hx)
    · simp only at hx; subst hx; exact .inl ⟨hfr _ (Nat.le_trans e1 (o1.lt x.block rfl).1), Nat.le_trans e1 (o1.lt x.block rfl).1⟩
    · simp only at hx; subst hx; exact .inl ⟨hfr _ (Nat.le_trans e2 (o2.lt x.block rfl).1), Nat.le_trans e2 (o2.lt x.block rfl).1⟩
    · simp only at hx; subst hx; exact .inl ⟨hfr _ (Nat.le_trans e3 (o3.lt x.block rfl).1), Nat.le_trans e3 (o3.lt x.block rfl).1⟩

set_option maxRecDepth 100000 in
set_option maxHeartbeats 4000000 in
theorem ownMessages_any {w : World} {G : LLay} {S : LSt} {N : Nat} (h : LRep w G S) (hs : LSync S N) (a : Option Addr) (n : Nat) (xs : List Value) (hn : n ≤ 1000) (ho : Owns w 109 4 ⟨a, n, n⟩ xs) (hf : ∀ x, a = some x → G.own x.block = some .fresh) (m : Int) (hm : m = -1 - (S.ms.length : Int)) :
    Calls Tryz.prog 107 #[.pointer (some ⟨G.lb, 0, none⟩), .slice a n n] w fun e w' => e = .returned (.tuple #[]) ∧ LLeaves G w { S with ms := S.ms ++ [m, m, m, m], m0 := S.m0 ++ [m, m, m, m] } w' := by
  have hN := hs.hN
  have lm := hs.lm
  have c4 := h.c 4 (by omega)
  rw [h.n4, hs.m] at c4
  have hxl := ho.len
  simp only at hxl
  have l0 := World.block_lt_of_cell? w _ c4
  have HM := hide hm
  clear hm
  go_enter Tryz.func107, Tryz.ntmps107
  go_wp2_with fail
  have hbA := below_alloc w (Obj.cells #[.int .i64 m, .int .i64 m, .int .i64 m, .int .i64 m] 109)
  have hRA := h.below hbA
  have hoA : Owns (w.alloc (Obj.cells #[.int .i64 m, .int .i64 m, .int .i64 m, .int .i64 m] 109)) 109 4 ⟨a, n, n⟩ xs := ho.frame fun x hx => hbA.block _ (ho.lt x hx)
  have hxA : ∃ cs, (w.alloc (Obj.cells #[.int .i64 m, .int .i64 m, .int .i64 m, .int .i64 m] 109)).heap[w.heap.size]? = some cs ∧ cs = Obj.cells #[.int .i64 m, .int .i64 m, .int .i64 m, .int .i64 m] 109 := ⟨_, heap_alloc_last _ _ _ rfl, rfl⟩
  obtain ⟨cs, hxA, hcs⟩ := hxA
  have hszA : (w.alloc (Obj.cells #[.int .i64 m, .int .i64 m, .int .i64 m, .int .i64 m] 109)).heap.size = w.heap.size + 1 := by simp
  rw [← unhide HM]
  generalize w.alloc (Obj.cells #[.int .i64 m, .int .i64 m, .int .i64 m, .int .i64 m] 109) = wA at *
  have hgx : gof a wA.heap.size ≠ w.heap.size := by
    cases a with
    | none => show wA.heap.size ≠ _; omega
    | some x => have := ho.lt x rfl; show x.block ≠ _; omega
  have hgl : gof a wA.heap.size ≠ G.lb := by
    cases a with
    | none => show wA.heap.size ≠ _; omega
    | some x => intro e; have := hf x rfl; rw [show x.block = G.lb from e, h.tm] at this; cases this
  clear c4
  go_loopw [6] (fun i wr => ∃ j : Nat, j ≤ n ∧ i = .int .i64 (j : Int) ∧ Only (gof a wA.heap.size) wA wr ∧ Owns wr 109 4 ⟨a, n, n⟩ (overs (msgPat m) xs j)) (fun i _ => n - (intOf i).toNat)
  case atStart => exact ⟨0, Nat.zero_le _, rfl, Only.refl _ _, by rw [overs_zero]; exact hoA⟩
  case round =>
    obtain ⟨j, hj, rfl, hon, hoj⟩ := hrel
    have hbx : wr.heap[w.heap.size]? = some (Obj.cells #[.int .i64 m, .int .i64 m, .int .i64 m, .int .i64 m] 109) := by rw [hon.keep _ (by omega) (Ne.symm hgx), hxA, hcs]
    have x0 : wr.cell? ⟨w.heap.size, 0, none⟩ = some (.int .i64 m) := cell_of_row wr w.heap.size 0 _ _ _ hbx
    have x1 : wr.cell? ⟨w.heap.size, 1, none⟩ = some (.int .i64 m) := cell_of_row wr w.heap.size 1 _ _ _ hbx
    have x2 : wr.cell? ⟨w.heap.size, 2, none⟩ = some (.int .i64 m) := cell_of_row wr w.heap.size 2 _ _ _ hbx
    have x3 : wr.cell? ⟨w.heap.size, 3, none⟩ = some (.int .i64 m) := cell_of_row wr w.heap.size 3 _ _ _ hbx
    by_cases hlt : j < n
    · obtain ⟨g, ea, hcp, hfz, hcell⟩ := hoj.at (by simp; omega)
      simp only at ea hcp
      subst ea
      have hol := overs_length (msgPat m) xs n j hxl hj
      rw [show (msgPat m).length = 4 from rfl] at hol
      have hge : ∀ q, q < n * 4 → ∃ u, (overs (msgPat m) xs j)[q]? = some u := fun q hq => ⟨_, List.getElem?_eq_getElem (by omega)⟩
      obtain ⟨u0, h0⟩ := hge (j * 4) (by omega)
      obtain ⟨u1, h1⟩ := hge (j * 4 + 1) (by omega)
      obtain ⟨u2, h2⟩ := hge (j * 4 + 2) (by omega)
      obtain ⟨u3, h3⟩ := hge (j * 4 + 3) (by omega)
      have p0 := hcell _ _ h0
      have p1 := hcell _ _ h1
      have p2 := hcell _ _ h2
      have p3 := hcell _ _ h3
      have hji : (j : Int) < (n : Int) := by omega
      have HOJ := hide hoj
      have HON := hide hon
      have HOL := hide hol
      clear hcell hge h0 h1 h2 h3 hoj hon hol hbx hoA ho
      go_wp2
      have hoj := unhide HOJ
      have hon := unhide HON
      have hol := unhide HOL
      refine ⟨⟨j + 1, by omega, by go_num, (((hon.setCell (j * 4) _).setCell (j * 4 + 1) _).setCell (j * 4 + 2) _).setCell (j * 4 + 3) _, ?_⟩, by simp [intOf]; omega⟩
      rw [← overs_msg m xs n j hxl hlt]
      exact (((hoj.setCell rfl (j * 4) _ (by omega)).setCell rfl (j * 4 + 1) _ (by rw [List.length_set]; omega)).setCell rfl (j * 4 + 2) _ (by rw [List.length_set, List.length_set]; omega)).setCell rfl (j * 4 + 3) _ (by rw [List.length_set, List.length_set, List.length_set]; omega)
    · have hjn : j = n := by omega
      subst hjn
      rw [overs_full _ _ _ hxl] at hoj
      have hji : ¬ (j : Int) < (j : Int) := by omega
      obtain ⟨i0, hii, hz0, hz1, hz2⟩ := info_parts Tryz.infoMsg
      have hLr : LRep wr G S := hRA.only hon (by
        cases a with
        | none => exact .inr (hRA.free (Nat.le_refl _))
        | some x => exact .inl (hf x rfl))
      have hbl := hon.size
      have hx0l : w.heap.size < wr.heap.size := by omega
      have HX := hide (fun W (hb : Below wr.heap.size wr W) => And.intro ((hb.cell (p := ⟨w.heap.size, 0, none⟩) hx0l).trans x0) (And.intro ((hb.cell (p := ⟨w.heap.size, 1, none⟩) hx0l).trans x1) (And.intro ((hb.cell (p := ⟨w.heap.size, 2, none⟩) hx0l).trans x2) ((hb.cell (p := ⟨w.heap.size, 3, none⟩) hx0l).trans x3))))
      have HLR := hide (fun W (hb : Below wr.heap.size wr W) => hLr.below hb)
      have HOJ := hide (fun W (hb : Below wr.heap.size wr W) => hoj.frame fun x hx => hb.block _ (hoj.lt x hx))
      have HH := hide (fun W (hb : Below wr.heap.size wr W) => owns_holds (hoj.frame fun x hx => hb.block _ (hoj.lt x hx)))
      have hnn := owns_none hoj
      have HNN := hide hnn
      have HLO := hide (show (rep (msgPat m) j).length = j * 4 from rep_length _ _)
      have HON := hide hon
      have HFR := hide (fun b (hb : wr.heap.size ≤ b) => hLr.free hb)
      have hn1 : (G.sv 1).n ≤ 8000000 := by rw [h.n1]; omega
      have hn4 : (G.sv 4).n ≤ 8000000 := by rw [h.n4, hs.m]; omega
      obtain ⟨i1, hj, hy0, hy1, hy2⟩ := info_parts Tryz.infoSlM
      clear hoj hoA ho hnn hLr hon
      go_wp2_with (at_builtin; first
        | (refine wpList_append_grows _ rfl _ _ 53 rfl 109 i0 (.agg #[.int .i64 0, .int .i64 0, .int .i64 0, .int .i64 0]) 4 32 Tryz.underlying53 hii hz0 hz1 hz2 rfl (by decide) a j j (rep (msgPat m) j) rfl (unhide HNN) (unhide HLO) (unhide HH _ (below_alloc _ _)) ⟨wr.heap.size, 0, none⟩ 1 1 (rep (msgPat m) 1) rfl rfl (new_cells _ _ _) (rep_one m 1) (by omega) (by unfold maxLen; omega) (by omega) ?_; intro v1 w1 o1 g1; obtain ⟨s1, d1, rfl⟩ := ownsRow_sl o1; have hb1 : Below wr.heap.size wr w1 := (below_alloc _ _).grown g1 (by simp) (by intro k hk; cases hk); obtain ⟨x0, x1, x2, x3⟩ := unhide HX w1 hb1; clear g1)
        | (refine wpList_append_grows _ rfl _ _ 53 rfl 109 i0 (.agg #[.int .i64 0, .int .i64 0, .int .i64 0, .int .i64 0]) 4 32 Tryz.underlying53 hii hz0 hz1 hz2 rfl (by decide) a j j (rep (msgPat m) j) rfl (unhide HNN) (unhide HLO) (unhide HH _ (hb1.more (below_alloc _ _))) ⟨w1.heap.size, 0, none⟩ 2 2 (rep (msgPat m) 2) rfl rfl (new_cells _ _ _) (rep_one m 2) (by omega) (by unfold maxLen; omega) (by omega) ?_; intro v2 w2 o2 g2; obtain ⟨s2, d2, rfl⟩ := ownsRow_sl o2; have hb2 : Below w1.heap.size w1 w2 := (below_alloc _ _).grown g2 (by simp) (by intro k hk; cases hk); obtain ⟨x0, x1, x2, x3⟩ := unhide HX w2 (hb1.more hb2); clear g2)
        | (refine wpList_append_grows _ rfl _ _ 53 rfl 109 i0 (.agg #[.int .i64 0, .int .i64 0, .int .i64 0, .int .i64 0]) 4 32 Tryz.underlying53 hii hz0 hz1 hz2 rfl (by decide) a j j (rep (msgPat m) j) rfl (unhide HNN) (unhide HLO) (unhide HH _ ((hb1.more hb2).more (below_alloc _ _))) ⟨w2.heap.size, 0, none⟩ 3 3 (rep (msgPat m) 3) rfl rfl (new_cells _ _ _) (rep_one m 3) (by omega) (by unfold maxLen; omega) (by omega) ?_; intro v3 w3 o3 g3; obtain ⟨s3, d3, rfl⟩ := ownsRow_sl o3; have hb3 : Below w2.heap.size w2 w3 := (below_alloc _ _).grown g3 (by simp) (by intro k hk; cases hk); have hb13 := (hb1.more hb2).more hb3; have hR3 := unhide HLR w3 hb13; have c13 := hR3.c 1 (by omega); have q1 := ownsRow_below (ownsRow_below o1 hb2) hb3; have q2 := ownsRow_below o2 hb3; obtain ⟨hts, htf⟩ := four_own m hR3 (unhide HOJ w3 hb13) hf q1 q2 o3 (by simp) (by have := hb1.size; simp <;> omega) (by have := hb1.size; have := hb2.size; simp <;> omega) (unhide HFR); clear g3 o1 o2 o3 q1 q2)
        | (refine wpList_append_lies _ rfl _ _ 65 rfl 0 53 i1 (.slice none 0 0) 1 24 Tryz.underlying65 hj hy0 hy1 hy2 rfl (by decide) (.slice (G.sv 1).a (G.sv 1).n (G.sv 1).cap) (G.sv 1).n (slCells G.ml S.ms.length) rfl (World.ownsRow.alloc (show w3.ownsRow 0 53 1 (.slice (G.sv 1).a (G.sv 1).n (G.sv 1).cap) (G.sv 1).n (slCells G.ml S.ms.length) from hR3.o 1 (by omega)) _) ⟨w3.heap.size, 0, none⟩ 4 4 [.slice a j j, .slice s1 (j + 1) d1, .slice s2 (j + 2) d2, .slice s3 (j + 3) d3] rfl rfl (new_cells _ _ _) (fun x hx => by simp at hx; rcases hx with rfl | rfl | rfl | rfl <;> rfl) (by omega) (by unfold maxLen; omega) (by omega) (Nat.zero_le _) _ rfl ?_; intro k4 cap4 w4 o4 g4 p4 q4; obtain ⟨G4, e4, e5, hL4, hE4⟩ := hR3.addM m [⟨a, j, j⟩, ⟨s1, j + 1, d1⟩, ⟨s2, j + 2, d2⟩, ⟨s3, j + 3, d3⟩] [m, m, m, m] rfl (by simp) hts (fun t x ht hx => (htf t x ht hx).imp And.left id) (below_alloc _ _) o4 g4 p4 q4; have hk4 := (g4.block G.lb (by have := hR3.lt _ _ hR3.tm; simp; omega) (hR3.lb_ne 1 (by omega))).trans ((below_alloc w3 _).block G.lb (hR3.lt _ _ hR3.tm)); have c14 := (World.cell?_of_block (a := ⟨G.lb, 1, none⟩) hk4).trans (hR3.c 1 (by omega)); have f14 := (World.frozen?_of_block (a := ⟨G.lb, 1, none⟩) hk4).trans (hR3.fz 1); have c44 := (World.cell?_of_block (a := ⟨G.lb, 4, none⟩) hk4).trans (hR3.c 4 (by omega)); clear o4 g4 p4))
      rw [show (G.sv 1).n + 4 = (G.sv 1).n + [(⟨a, j, j⟩ : Sl), ⟨s1, j + 1, d1⟩, ⟨s2, j + 2, d2⟩, ⟨s3, j + 3, d3⟩].length from rfl]
      generalize w4.setCell ⟨G.lb, 1, none⟩ (.slice (some ⟨k4, 0, none⟩) ((G.sv 1).n + [(⟨a, j, j⟩ : Sl), ⟨s1, j + 1, d1⟩, ⟨s2, j + 2, d2⟩, ⟨s3, j + 3, d3⟩].length) cap4) = wM at *
      have cM := hL4.c 4 (by omega)
      have fM := hL4.fz 4
      have oM := hL4.o 4 (by omega)
      rw [e5] at cM oM
      rw [e4] at cM fM
      have oM : wM.ownsRow 0 3 1 (.slice (G.sv 4).a (G.sv 4).n (G.sv 4).cap) (G.sv 4).n (intCells S.m0) := oM
      have lM : G.lb < wM.heap.size := World.block_lt_of_cell? wM _ cM
      have neM := hL4.lb_ne 4 (by omega)
      rw [e4, e5] at neM
      obtain ⟨i2, hj2, hx0, hx1, hx2⟩ := info_parts Tryz.infoInt
      clear c14 f14 c44 hk4 c13 x0 x1 x2 x3 hz0 hz1 hz2 hii hj hy0 hy1 hy2
      go_region_law (refine step_append_lies _ rfl (.tmp 65) (.tmp 70) 56 rfl 0 3 i2 (.int .i64 0) 1 8 Tryz.underlying56 hj2 hx0 hx1 hx2 rfl (by decide) (.slice (G.sv 4).a (G.sv 4).n (G.sv 4).cap) (G.sv 4).n (intCells S.m0) rfl (by exact World.ownsRow.alloc oM _) ⟨wM.heap.size, 0, none⟩ 4 4 [.int .i64 m, .int .i64 m, .int .i64 m, .int .i64 m] rfl rfl (by exact new_cells_at _ [.int .i64 m, .int .i64 m, .int .i64 m, .int .i64 m] _ _ rfl) (fun x hx => by simp at hx; subst hx; rfl) (by omega) (by unfold maxLen; omega) (by omega) (Nat.zero_le _) _ rfl ?_; intro k5 cap5 w5 o5 g5 p5 q5; have hk5 := (g5.block G.lb (by simp <;> omega) neM).trans ((below_alloc wM _).drew.block G.lb lM); have c45 := (World.cell?_of_block (a := ⟨G.lb, 4, none⟩) hk5).trans cM; have f45 := (World.frozen?_of_block (a := ⟨G.lb, 4, none⟩) hk5).trans fM)
      all_goals (try go_wp2)
      all_goals
        go_end0
        have hA := hL4.addK true [m, m, m, m] (W := _) (k := k5) (cap := cap5) (n := (G.sv 4).n + 4) (w4 := w5) ((below_alloc wM _).drew) o5 (by simp only [if_true, e5]; exact g5) (by simp only [if_true, e5]; exact p5) q5
        simp only [if_true] at hA
        rw [e4] at hA
        obtain ⟨G5, e6, hL5, hE5⟩ := hA
        refine ⟨rfl, G5, e6, hL5, ?_⟩
        have hon := unhide HON
        have hE0 : Ext G.own w G.own w3 := (Ext.of_below hbA).trans ((hon.ext' (by
          cases a with
          | none => exact .inr (Nat.le_refl _)
          | some x => exact .inl (by rw [show gof (some x) wA.heap.size = x.block from rfl, hf x rfl]; simp))).trans (Ext.of_below hb13))
        refine (hE0.retagged _ .kept ?_).trans (hE4.trans hE5)
        intro b hb
        obtain ⟨t, x, ht, hx, e⟩ := inSls_iff hb
        subst e
        rcases htf t x ht hx with h1 | h1
        · left; have := h1.2; omega
        · right; rw [h1]; simp
end Go.Proofs.YtekbjlhbjcikdaaGreat
/-
  accordlaw: walk of ownRecords.
-/
namespace Go.Proofs.YtekbjlhbjcikdaaGreat
open Go.RowKit Acc

theorem rep_oneR (m : Int) (k : Nat) : ∀ u ∈ rep (recPat m) k, u.oneCell' = true := by
  induction k with
  | zero => intro u hu; simp [rep] at hu
  | succ k ih =>
    intro u hu
    simp only [rep, List.mem_append] at hu
    rcases hu with hu | hu
    · exact ih u hu
    · simp only [recPat, List.mem_cons, List.not_mem_nil, or_false] at hu
      rcases hu with rfl | rfl <;> rfl
theorem four_ownR {w : World} {G : LLay} {S : LSt} {b1 b2 b3 B j : Nat} {a s1 s2 s3 : Option Addr} {d1 d2 d3 : Nat} (m : Int) (_h : LRep w G S) (h0 : Owns w 43 2 ⟨a, j, j⟩ (rep (recPat m) j)) (hf : ∀ x, a = some x → G.own x.block = some .fresh)
    (o1 : w.ownsRow b1 43 2 (.slice s1 (j + 1) d1) (j + 1) (rep (recPat m) j ++ rep (recPat m) 1)) (o2 : w.ownsRow b2 43 2 (.slice s2 (j + 2) d2) (j + 2) (rep (recPat m) j ++ rep (recPat m) 2)) (o3 : w.ownsRow b3 43 2 (.slice s3 (j + 3) d3) (j + 3) (rep (recPat m) j ++ rep (recPat m) 3))
    (e1 : B ≤ b1) (e2 : B ≤ b2) (e3 : B ≤ b3) (hfr : ∀ b, B ≤ b → G.own b = none) :
    (∀ t, t ∈ [(⟨a, j, j⟩ : Sl), ⟨s1, j + 1, d1⟩, ⟨s2, j + 2, d2⟩, ⟨s3, j + 3, d3⟩] → Owns w 43 2 t (rep (recPat m) t.n)) ∧ (∀ t x, t ∈ [(⟨a, j, j⟩ : Sl), ⟨s1, j + 1, d1⟩, ⟨s2, j + 2, d2⟩, ⟨s3, j + 3, d3⟩] → t.a = some x → (G.own x.block = none ∧ B ≤ x.block) ∨ G.own x.block = some .fresh) := by
  rw [← rep_add] at o1 o2 o3
  constructor
  · intro t ht
    simp only [List.mem_cons, List.not_mem_nil, or_false] at ht
    rcases ht with rfl | rfl | rfl | rfl
    · exact h0
    · exact ownsRow_mono o1 (Nat.zero_le _)
    · exact ownsRow_mono o2 (Nat.zero_le _)
    · exact ownsRow_mono o3 (Nat.zero_le _)
  · intro t x ht hx
    simp only [List.mem_cons, List.not_mem_nil, or_false] at ht
    rcases ht with rfl | rfl | rfl | rfl
    · exact .inr (hf x hx)
    · simp only at hx; subst hx; exact .inl ⟨hfr _ (Nat.le_trans e1 (o1.lt x.block rfl).1), Nat.le_trans e1 (o1.lt x.block rfl).1⟩
    · simp only at hx; subst hx; exact .inl ⟨hfr _ (Nat.le_trans e2 (o2.lt x.block rfl).1), Nat.le_trans e2 (o2.lt x.block rfl).1⟩
    · simp only at hx; subst hx; exact .inl ⟨hfr _ (Nat.le_trans e3 (o3.lt x.block rfl).1), Nat.le_trans e3 (o3.lt x.block rfl).1⟩

set_option maxRecDepth 100000 in
set_option maxHeartbeats 4000000 in
theorem ownRecords_any {w : World} {G : LLay} {S : LSt} {N : Nat} (h : LRep w G S) (hs : LSync S N) (a : Option Addr) (n : Nat) (xs : List Value) (hn : n ≤ 1000) (ho : Owns w 43 2 ⟨a, n, n⟩ xs) (hf : ∀ x, a = some x → G.own x.block = some .fresh) (m : Int) (hm : m = -1 - (S.rs.length : Int)) :
    Calls Tryz.prog 110 #[.pointer (some ⟨G.lb, 0, none⟩), .slice a n n] w fun e w' => e = .returned (.tuple #[]) ∧ LLeaves G w { S with rs := S.rs ++ [m, m, m, m], m1 := S.m1 ++ [m, m, m, m] } w' := by
  have hN := hs.hN
  have lm := hs.lr
  have c4 := h.c 5 (by omega)
  rw [h.n5, hs.r] at c4
  have hxl := ho.len
  simp only at hxl
  have l0 := World.block_lt_of_cell? w _ c4
  have HM := hide hm
  clear hm
  go_enter Tryz.func110, Tryz.ntmps110
  go_wp2_with fail
  have hbA := below_alloc w (Obj.cells #[.int .i64 m, .int .i64 m] 43)
  have hRA := h.below hbA
  have hoA : Owns (w.alloc (Obj.cells #[.int .i64 m, .int .i64 m] 43)) 43 2 ⟨a, n, n⟩ xs := ho.frame fun x hx => hbA.block _ (ho.lt x hx)
  have hxA : ∃ cs, (w.alloc (Obj.cells #[.int .i64 m, .int .i64 m] 43)).heap[w.heap.size]? = some cs ∧ cs = Obj.cells #[.int .i64 m, .int .i64 m] 43 := ⟨_, heap_alloc_last _ _ _ rfl, rfl⟩
  obtain ⟨cs, hxA, hcs⟩ := hxA
  have hszA : (w.alloc (Obj.cells #[.int .i64 m, .int .i64 m] 43)).heap.size = w.heap.size + 1 := by simp
  rw [← unhide HM]
  generalize w.alloc (Obj.cells #[.int .i64 m, .int .i64 m] 43) = wA at *
  have hgx : gof a wA.heap.size ≠ w.heap.size := by
    cases a with
    | none => show wA.heap.size ≠ _; omega
    | some x => have := ho.lt x rfl; show x.block ≠ _; omega
  have hgl : gof a wA.heap.size ≠ G.lb := by
    cases a with
    | none => show wA.heap.size ≠ _; omega
    | some x => intro e; have := hf x rfl; rw [show x.block = G.lb from e, h.tm] at this; cases this
  clear c4
  go_loopw [6] (fun i wr => ∃ j : Nat, j ≤ n ∧ i = .int .i64 (j : Int) ∧ Only (gof a wA.heap.size) wA wr ∧ Owns wr 43 2 ⟨a, n, n⟩ (overs (recPat m) xs j)) (fun i _ => n - (intOf i).toNat)
  case atStart => exact ⟨0, Nat.zero_le _, rfl, Only.refl _ _, by rw [overs_zero]; exact hoA⟩
  case round =>
    obtain ⟨j, hj, rfl, hon, hoj⟩ := hrel
    have hbx : wr.heap[w.heap.size]? = some (Obj.cells #[.int .i64 m, .int .i64 m] 43) := by rw [hon.keep _ (by omega) (Ne.symm hgx), hxA, hcs]
    have x0 : wr.cell? ⟨w.heap.size, 0, none⟩ = some (.int .i64 m) := cell_of_row wr w.heap.size 0 _ _ _ hbx
    have x1 : wr.cell? ⟨w.heap.size, 1, none⟩ = some (.int .i64 m) := cell_of_row wr w.heap.size 1 _ _ _ hbx
    by_cases hlt : j < n
    · obtain ⟨g, ea, hcp, hfz, hcell⟩ := hoj.at (by simp; omega)
      simp only at ea hcp
      subst ea
      have hol := overs_length (recPat m) xs n j hxl hj
      rw [show (recPat m).length = 2 from rfl] at hol
      have hge : ∀ q, q < n * 2 → ∃ u, (overs (recPat m) xs j)[q]? = some u := fun q hq => ⟨_, List.getElem?_eq_getElem (by omega)⟩
      obtain ⟨u0, h0⟩ := hge (j * 2) (by omega)
      obtain ⟨u1, h1⟩ := hge (j * 2 + 1) (by omega)
      have p0 := hcell _ _ h0
      have p1 := hcell _ _ h1
      have hji : (j : Int) < (n : Int) := by omega
      have HOJ := hide hoj
      have HON := hide hon
      have HOL := hide hol
      clear hcell hge h0 h1 hoj hon hol hbx hoA ho
      go_wp2
      have hoj := unhide HOJ
      have hon := unhide HON
      have hol := unhide HOL
      refine ⟨⟨j + 1, by omega, by go_num, (hon.setCell (j * 2) _).setCell (j * 2 + 1) _, ?_⟩, by simp [intOf]; omega⟩
      rw [← overs_rec m xs n j hxl hlt]
      exact (hoj.setCell rfl (j * 2) _ (by omega)).setCell rfl (j * 2 + 1) _ (by rw [List.length_set]; omega)
    · have hjn : j = n := by omega
      subst hjn
      rw [overs_full _ _ _ hxl] at hoj
      have hji : ¬ (j : Int) < (j : Int) := by omega
      obtain ⟨i0, hii, hz0, hz1, hz2⟩ := info_parts Tryz.infoRec
      have hLr : LRep wr G S := hRA.only hon (by
        cases a with
        | none => exact .inr (hRA.free (Nat.le_refl _))
        | some x => exact .inl (hf x rfl))
      have hbl := hon.size
      have hx0l : w.heap.size < wr.heap.size := by omega
      have HX := hide (fun W (hb : Below wr.heap.size wr W) => And.intro ((hb.cell (p := ⟨w.heap.size, 0, none⟩) hx0l).trans x0) ((hb.cell (p := ⟨w.heap.size, 1, none⟩) hx0l).trans x1))
      have HLR := hide (fun W (hb : Below wr.heap.size wr W) => hLr.below hb)
      have HOJ := hide (fun W (hb : Below wr.heap.size wr W) => hoj.frame fun x hx => hb.block _ (hoj.lt x hx))
      have HH := hide (fun W (hb : Below wr.heap.size wr W) => owns_holds (hoj.frame fun x hx => hb.block _ (hoj.lt x hx)))
      have hnn := owns_none hoj
      have HNN := hide hnn
      have HLO := hide (show (rep (recPat m) j).length = j * 2 from rep_length _ _)
      have HON := hide hon
      have HFR := hide (fun b (hb : wr.heap.size ≤ b) => hLr.free hb)
      have hn1 : (G.sv 2).n ≤ 8000000 := by rw [h.n2]; omega
      have hn4 : (G.sv 5).n ≤ 8000000 := by rw [h.n5, hs.r]; omega
      obtain ⟨i1, hj, hy0, hy1, hy2⟩ := info_parts Tryz.infoSlC
      clear hoj hoA ho hnn hLr hon
      go_wp2_with (at_builtin; first
        | (refine wpList_append_grows _ rfl _ _ 33 rfl 43 i0 (.agg #[.int .i64 0, .int .i64 0]) 2 16 Tryz.underlying33 hii hz0 hz1 hz2 rfl (by decide) a j j (rep (recPat m) j) rfl (unhide HNN) (unhide HLO) (unhide HH _ (below_alloc _ _)) ⟨wr.heap.size, 0, none⟩ 1 1 (rep (recPat m) 1) rfl rfl (new_cells _ _ _) (rep_oneR m 1) (by omega) (by unfold maxLen; omega) (by omega) ?_; intro v1 w1 o1 g1; obtain ⟨s1, d1, rfl⟩ := ownsRow_sl o1; have hb1 : Below wr.heap.size wr w1 := (below_alloc _ _).grown g1 (by simp) (by intro k hk; cases hk); obtain ⟨x0, x1⟩ := unhide HX w1 hb1; clear g1)
        | (refine wpList_append_grows _ rfl _ _ 33 rfl 43 i0 (.agg #[.int .i64 0, .int .i64 0]) 2 16 Tryz.underlying33 hii hz0 hz1 hz2 rfl (by decide) a j j (rep (recPat m) j) rfl (unhide HNN) (unhide HLO) (unhide HH _ (hb1.more (below_alloc _ _))) ⟨w1.heap.size, 0, none⟩ 2 2 (rep (recPat m) 2) rfl rfl (new_cells _ _ _) (rep_oneR m 2) (by omega) (by unfold maxLen; omega) (by omega) ?_; intro v2 w2 o2 g2; obtain ⟨s2, d2, rfl⟩ := ownsRow_sl o2; have hb2 : Below w1.heap.size w1 w2 := (below_alloc _ _).grown g2 (by simp) (by intro k hk; cases hk); obtain ⟨x0, x1⟩ := unhide HX w2 (hb1.more hb2); clear g2)
        | (refine wpList_append_grows _ rfl _ _ 33 rfl 43 i0 (.agg #[.int .i64 0, .int .i64 0]) 2 16 Tryz.underlying33 hii hz0 hz1 hz2 rfl (by decide) a j j (rep (recPat m) j) rfl (unhide HNN) (unhide HLO) (unhide HH _ ((hb1.more hb2).more (below_alloc _ _))) ⟨w2.heap.size, 0, none⟩ 3 3 (rep (recPat m) 3) rfl rfl (new_cells _ _ _) (rep_oneR m 3) (by omega) (by unfold maxLen; omega) (by omega) ?_; intro v3 w3 o3 g3; obtain ⟨s3, d3, rfl⟩ := ownsRow_sl o3; have hb3 : Below w2.heap.size w2 w3 := (below_alloc _ _).grown g3 (by simp) (by intro k hk; cases hk); have hb13 := (hb1.more hb2).more hb3; have hR3 := unhide HLR w3 hb13; have c13 := hR3.c 2 (by omega); have q1 := ownsRow_below (ownsRow_below o1 hb2) hb3; have q2 := ownsRow_below o2 hb3; obtain ⟨hts, htf⟩ := four_ownR m hR3 (unhide HOJ w3 hb13) hf q1 q2 o3 (by simp) (by have := hb1.size; simp <;> omega) (by have := hb1.size; have := hb2.size; simp <;> omega) (unhide HFR); clear g3 o1 o2 o3 q1 q2)
        | (refine wpList_append_lies _ rfl _ _ 66 rfl 0 33 i1 (.slice none 0 0) 1 24 Tryz.underlying66 hj hy0 hy1 hy2 rfl (by decide) (.slice (G.sv 2).a (G.sv 2).n (G.sv 2).cap) (G.sv 2).n (slCells G.rl S.rs.length) rfl (World.ownsRow.alloc (show w3.ownsRow 0 33 1 (.slice (G.sv 2).a (G.sv 2).n (G.sv 2).cap) (G.sv 2).n (slCells G.rl S.rs.length) from hR3.o 2 (by omega)) _) ⟨w3.heap.size, 0, none⟩ 4 4 [.slice a j j, .slice s1 (j + 1) d1, .slice s2 (j + 2) d2, .slice s3 (j + 3) d3] rfl rfl (new_cells _ _ _) (fun x hx => by simp at hx; rcases hx with rfl | rfl | rfl | rfl <;> rfl) (by omega) (by unfold maxLen; omega) (by omega) (Nat.zero_le _) _ rfl ?_; intro k4 cap4 w4 o4 g4 p4 q4; obtain ⟨G4, e4, e5, hL4, hE4⟩ := hR3.addR m [⟨a, j, j⟩, ⟨s1, j + 1, d1⟩, ⟨s2, j + 2, d2⟩, ⟨s3, j + 3, d3⟩] [m, m, m, m] rfl (by simp) hts (fun t x ht hx => (htf t x ht hx).imp And.left id) (below_alloc _ _) o4 g4 p4 q4; have hk4 := (g4.block G.lb (by have := hR3.lt _ _ hR3.tm; simp; omega) (hR3.lb_ne 2 (by omega))).trans ((below_alloc w3 _).block G.lb (hR3.lt _ _ hR3.tm)); have c14 := (World.cell?_of_block (a := ⟨G.lb, 2, none⟩) hk4).trans (hR3.c 2 (by omega)); have f14 := (World.frozen?_of_block (a := ⟨G.lb, 2, none⟩) hk4).trans (hR3.fz 2); have c44 := (World.cell?_of_block (a := ⟨G.lb, 5, none⟩) hk4).trans (hR3.c 5 (by omega)); clear o4 g4 p4))
      rw [show (G.sv 2).n + 4 = (G.sv 2).n + [(⟨a, j, j⟩ : Sl), ⟨s1, j + 1, d1⟩, ⟨s2, j + 2, d2⟩, ⟨s3, j + 3, d3⟩].length from rfl]
      generalize w4.setCell ⟨G.lb, 2, none⟩ (.slice (some ⟨k4, 0, none⟩) ((G.sv 2).n + [(⟨a, j, j⟩ : Sl), ⟨s1, j + 1, d1⟩, ⟨s2, j + 2, d2⟩, ⟨s3, j + 3, d3⟩].length) cap4) = wM at *
      have cM := hL4.c 5 (by omega)
      have fM := hL4.fz 5
      have oM := hL4.o 5 (by omega)
      rw [e5] at cM oM
      rw [e4] at cM fM
      have oM : wM.ownsRow 0 3 1 (.slice (G.sv 5).a (G.sv 5).n (G.sv 5).cap) (G.sv 5).n (intCells S.m1) := oM
      have lM : G.lb < wM.heap.size := World.block_lt_of_cell? wM _ cM
      have neM := hL4.lb_ne 5 (by omega)
      rw [e4, e5] at neM
      obtain ⟨i2, hj2, hx0, hx1, hx2⟩ := info_parts Tryz.infoInt
      clear c14 f14 c44 hk4 c13 x0 x1 hz0 hz1 hz2 hii hj hy0 hy1 hy2
      go_region_law (refine step_append_lies _ rfl (.tmp 63) (.tmp 68) 56 rfl 0 3 i2 (.int .i64 0) 1 8 Tryz.underlying56 hj2 hx0 hx1 hx2 rfl (by decide) (.slice (G.sv 5).a (G.sv 5).n (G.sv 5).cap) (G.sv 5).n (intCells S.m1) rfl (by exact World.ownsRow.alloc oM _) ⟨wM.heap.size, 0, none⟩ 4 4 [.int .i64 m, .int .i64 m, .int .i64 m, .int .i64 m] rfl rfl (by exact new_cells_at _ [.int .i64 m, .int .i64 m, .int .i64 m, .int .i64 m] _ _ rfl) (fun x hx => by simp at hx; subst hx; rfl) (by omega) (by unfold maxLen; omega) (by omega) (Nat.zero_le _) _ rfl ?_; intro k5 cap5 w5 o5 g5 p5 q5; have hk5 := (g5.block G.lb (by simp <;> omega) neM).trans ((below_alloc wM _).drew.block G.lb lM); have c45 := (World.cell?_of_block (a := ⟨G.lb, 5, none⟩) hk5).trans cM; have f45 := (World.frozen?_of_block (a := ⟨G.lb, 5, none⟩) hk5).trans fM)
      all_goals (try go_wp2)
      all_goals
        go_end0
        have hA := hL4.addK false [m, m, m, m] (W := _) (k := k5) (cap := cap5) (n := (G.sv 5).n + 4) (w4 := w5) ((below_alloc wM _).drew) o5 (by simp only [Bool.false_eq_true, if_false, e5]; exact g5) (by simp only [Bool.false_eq_true, if_false, e5]; exact p5) q5
        simp only [Bool.false_eq_true, if_false] at hA
        rw [e4] at hA
        obtain ⟨G5, e6, hL5, hE5⟩ := hA
        refine ⟨rfl, G5, e6, hL5, ?_⟩
        have hon := unhide HON
        have hE0 : Ext G.own w G.own w3 := (Ext.of_below hbA).trans ((hon.ext' (by
          cases a with
          | none => exact .inr (Nat.le_refl _)
          | some x => exact .inl (by rw [show gof (some x) wA.heap.size = x.block from rfl, hf x rfl]; simp))).trans (Ext.of_below hb13))
        refine (hE0.retagged _ .kept ?_).trans (hE4.trans hE5)
        intro b hb
        obtain ⟨t, x, ht, hx, e⟩ := inSls_iff hb
        subst e
        rcases htf t x ht hx with h1 | h1
        · left; have := h1.2; omega
        · right; rw [h1]; simp
end Go.Proofs.YtekbjlhbjcikdaaGreat
