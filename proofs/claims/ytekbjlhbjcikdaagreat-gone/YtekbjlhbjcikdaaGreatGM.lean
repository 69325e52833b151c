/-
  G1, G3, G4, one behind the other.
-/
import Derived.Test.YtekbjlhbjcikdaaGreatK10
import Derived.Test.YtekbjlhbjcikdaaGreatMI4
import Derived.Maps.AppendAt
/-
  accordkeep: walk of Run.logs.
-/
namespace Go.Proofs.YtekbjlhbjcikdaaGreat
open Go.RowKit Go.Shelf Acc Go.MuLone

theorem Kp.framed {w w' : World} {L : Lay} {K : KLay} {s : St} (h : Kp w L K s) (hs : w.heap.size ≤ w'.heap.size) (hk : ∀ b, ownK L K b ≠ none → w'.heap[b]? = w.heap[b]?) : Kp w' L K s := by
  refine ⟨h.rep.framed hs fun b hb => hk b fun e => hb (ownK_none.1 e).1, h.run.frame hs fun b t hb => hk b fun e => ?_, h.ap, h.ok, h.p3⟩
  rw [(ownK_none.1 e).2] at hb
  cases hb

theorem rowBlock {w : World} {base size k : Nat} {e : TypeId} {v : Value} {xs : List Value} (h : w.ownsRow base e size v k xs) : ∃ a c, v = .slice a k c ∧ (∀ b, v.ownBlock = some b → base ≤ b ∧ ∃ cs, w.heap[b]? = some (Obj.cells cs e (0, 0))) := by
  rcases h.2 with ⟨rfl, rfl⟩ | ⟨g, cap, cur, rfl, hb, hg, _⟩
  · exact ⟨none, 0, rfl, fun b hb => by simp [Value.ownBlock] at hb⟩
  · exact ⟨_, cap, rfl, fun b hb' => by simp only [Value.ownBlock, Option.some.injEq] at hb'; subst hb'; exact ⟨hb, _, hg⟩⟩
theorem rowFramed {w w' : World} {base size k : Nat} {e : TypeId} {v : Value} {xs : List Value} (h : w.ownsRow base e size v k xs) (hf : ∀ b, v.ownBlock = some b → w'.heap[b]? = w.heap[b]?) : w'.ownsRow base e size v k xs := by
  refine ⟨h.1, ?_⟩
  rcases h.2 with hn | ⟨g, cap, cur, rfl, hb, hgg, rest⟩
  · exact .inl hn
  · exact .inr ⟨g, cap, cur, rfl, hb, (hf g rfl).trans hgg, rest⟩
/-- A list of another type lies as it lay behind an append. -/
theorem rowOther {w w3 : World} {tmp : Obj} {b1 b2 s1 s2 k1 k2 : Nat} {e1 e2 : TypeId} {v1 v2 : Value} {x1 x2 : List Value} (h1 : w.ownsRow b1 e1 s1 v1 k1 x1) (h2 : w.ownsRow b2 e2 s2 v2 k2 x2) (he : e1 ≠ e2) (hg : (w.alloc tmp).grownBy w3 v2.ownBlock) : w3.ownsRow b1 e1 s1 v1 k1 x1 := by
  obtain ⟨_, _, _, q1⟩ := rowBlock h1
  obtain ⟨_, _, _, q2⟩ := rowBlock h2
  refine rowFramed h1 fun b hb => ?_
  obtain ⟨_, cs, hc⟩ := q1 b hb
  have hlt := (Array.getElem?_eq_some_iff.1 hc).1
  rw [hg.block b (by simp; omega) fun e => ?_]
  · exact Below.heap_alloc _ _ _ hlt
  · obtain ⟨_, cs', hc'⟩ := q2 b e.symm
    rw [hc] at hc'
    cases hc'
    exact he rfl
theorem rowGrown {w w3 : World} {tmp : Obj} {b0 s2 k2 : Nat} {e2 : TypeId} {v2 : Value} {x2 : List Value} (h2 : w.ownsRow b0 e2 s2 v2 k2 x2) (hs : b0 ≤ w.heap.size) (hg : (w.alloc tmp).grownBy w3 v2.ownBlock) : Below b0 w w3 := by
  obtain ⟨_, _, _, q2⟩ := rowBlock h2
  exact ((Below.refl b0 w).alloc hs tmp).grown hg (by simp; omega) fun k e => (q2 k e).1

theorem twoNew (w : World) (x y : Value) (t : TypeId) : ∀ j u, [x, y][j]? = some u → (w.alloc (Obj.cells #[x, y] t)).cell? ((⟨w.heap.size, 0, none⟩ : Addr).add j) = some u := by
  intro j u hj
  match j, hj with
  | 0, hj => simp at hj; subst hj; simp [go_sem, Addr.add]
  | 1, hj => simp at hj; subst hj; simp [go_sem, Addr.add]
  | j + 2, hj => simp at hj

/-- The run with the two lists of Run.logs. -/
def Kg (w1 : World) (o : Nat → Option Unit) (rb wb : Nat) (wr : World) (s : St) (v1 v2 : Value) (pre : List (Nat × (Nat × Nat))) : Prop :=
  ∃ L K, K.rb = rb ∧ L.wb = wb ∧ Kp wr L K s ∧ Ext o w1 (ownK L K) wr ∧ (∀ b, w1.heap.size ≤ b → ownK L K b = none) ∧
    wr.ownsRow w1.heap.size 3 1 v1 pre.length (pre.map fun x => Value.int .i64 (x.1 : Int)) ∧ wr.ownsRow w1.heap.size 43 2 v2 pre.length (recCells (pre.map fun x => x.2))

/-- Behind Log: the lists lie as they lay; the answer is a list of its own. -/
theorem Kg.log {w1 wr : World} {o : Nat → Option Unit} {rb wb : Nat} {s : St} {v1 v2 : Value} {pre : List (Nat × (Nat × Nat))} (h : Kg w1 o rb wb wr s v1 v2 pre) (_hs : w1.heap.size ≤ wr.heap.size) (i : Nat) (hi : i ≤ s.parts) :
    Calls Tryz.prog 18 #[.pointer (some ⟨wb, 0, none⟩), .int .i64 (i : Int)] wr fun e w' => ∃ a cap, e = .returned (.tuple #[.slice a (s.log i).length cap, .int .i64 0]) ∧ Kg w1 o rb wb w' s v1 v2 pre ∧ wr.heap.size ≤ w'.heap.size ∧
      w'.ownsRow wr.heap.size 43 2 (.slice a (s.log i).length cap) (s.log i).length (recCells (s.log i)) ∧ (∀ b, v2.ownBlock = some b → b < wr.heap.size) := by
  obtain ⟨L, K, rfl, rfl, hp, hE, hfr, r1, r2⟩ := h
  have hl : s.logP (i : Int) = (s.log i, 0) := by
    unfold St.logP
    rw [if_pos (by omega)]
    simp
  obtain ⟨_, _, _, q1⟩ := rowBlock r1
  obtain ⟨_, _, _, q2⟩ := rowBlock r2
  have := log_kt hp.refl (i : Int)
  rw [hl] at this
  refine this.mono ?_
  rintro e w2 ⟨a, cap, rfl, -, ho, L', K', e1, e2, hp', hE', hfr'⟩
  have hkeep : ∀ b, w1.heap.size ≤ b → b < wr.heap.size → w2.heap[b]? = wr.heap[b]? ∧ ownK L' K' b = none := fun b hb hlt => hE'.keep b hlt (hfr b hb)
  refine ⟨a, cap, rfl, ⟨L', K', e1, e2, hp', hE.trans hE', fun b hb => ?_, rowFramed r1 fun b hb => ?_, rowFramed r2 fun b hb => ?_⟩, hE'.size, ho, fun b hb => ?_⟩
  · by_cases hlt : b < wr.heap.size
    · exact (hkeep b hb hlt).2
    · exact hfr' b (by omega)
  · obtain ⟨z, cs, hc⟩ := q1 b hb
    exact (hkeep b z (Array.getElem?_eq_some_iff.1 hc).1).1
  · obtain ⟨z, cs, hc⟩ := q2 b hb
    exact (hkeep b z (Array.getElem?_eq_some_iff.1 hc).1).1
  · obtain ⟨z, cs, hc⟩ := q2 b hb
    exact (Array.getElem?_eq_some_iff.1 hc).1

theorem Kg.cells {w1 wr : World} {o : Nat → Option Unit} {rb wb : Nat} {s : St} {v1 v2 : Value} {pre : List (Nat × (Nat × Nat))} (h : Kg w1 o rb wb wr s v1 v2 pre) : wr.cell? ⟨rb, 0, none⟩ = some (.pointer (some ⟨wb, 0, none⟩)) := by
  obtain ⟨L, K, rfl, rfl, hp, _⟩ := h
  exact hp.run.r0

/-- .. behind what leaves all that lay at first as it lies. -/
theorem Kg.turned {w1 wr w3 : World} {o : Nat → Option Unit} {rb wb : Nat} {s : St} {v1 v2 v1' v2' : Value} {pre pre' : List (Nat × (Nat × Nat))} (h : Kg w1 o rb wb wr s v1 v2 pre) (hs : wr.heap.size ≤ w3.heap.size) (hb : Below w1.heap.size wr w3)
    (r1 : w3.ownsRow w1.heap.size 3 1 v1' pre'.length (pre'.map fun x => Value.int .i64 (x.1 : Int))) (r2 : w3.ownsRow w1.heap.size 43 2 v2' pre'.length (recCells (pre'.map fun x => x.2))) : Kg w1 o rb wb w3 s v1' v2' pre' := by
  obtain ⟨L, K, e1, e2, hp, hE, hfr, _, _⟩ := h
  refine ⟨L, K, e1, e2, hp.framed hs fun b hn => hb.block b ?_, ⟨hb.os.trans hE.os, hb.tape.trans hE.tape, hb.output.trans hE.output, Nat.le_trans hE.size hs, fun b hlt ho => ?_⟩, hfr, r1, r2⟩
  · by_cases hlt : b < w1.heap.size
    · exact hlt
    · exact absurd (hfr b (by omega)) hn
  · obtain ⟨k1, k2⟩ := hE.keep b hlt ho
    exact ⟨(hb.block b hlt).trans k1, k2⟩

set_option maxRecDepth 100000 in
set_option maxHeartbeats 2000000 in
theorem runLogs_any {w1 : World} {L : Lay} {K : KLay} {s : St} (h : Kp w1 L K s) :
    Calls Tryz.prog 33 #[.pointer (some ⟨K.rb, 0, none⟩)] w1 fun e w' => ∃ v1 v2, e = .returned (.tuple #[v1, v2, .bool true]) ∧ Kg w1 (ownK L K) K.rb L.wb w' s v1 v2 (s.recs 4) := by
  have hp3 := h.p3
  have hp4 : s.recs 4 = s.recs (s.parts + 1) := by rw [hp3]
  have H24 := hide h.ok.inv.len
  have hK0 : Kg w1 (ownK L K) K.rb L.wb w1 s (.slice none 0 0) (.slice none 0 0) [] := ⟨L, K, rfl, rfl, h, Ext.refl _ _, fun b hb => ownK_none.2 ⟨h.rep.own2_free hb, by cases hh : K.own b with | none => rfl | some u => (have := h.run.lt _ _ hh; omega)⟩, World.ownsRow_nil _ _ _ _, World.ownsRow_nil _ _ _ _⟩
  generalize ownK L K = o at *
  generalize K.rb = rb at *
  generalize L.wb = wb at *
  clear h
  go_enter Tryz.func33, Tryz.ntmps33
  go_wp2_with fail
  go_loopw [5, 6, 7] (fun v1 v2 n wr => ∃ j : Nat, j ≤ 4 ∧ n = .int .i64 (j : Int) ∧ Kg w1 o rb wb wr s v1 v2 (s.recs j) ∧ w1.heap.size ≤ wr.heap.size) (fun _ _ n _ => 4 - (intOf n).toNat)
  case atStart => exact ⟨0, by omega, rfl, by simpa [St.recs] using hK0, Nat.le_refl _⟩
  case round =>
    clear hK0
    obtain ⟨j, hj, rfl, hK, hsz⟩ := hrel
    by_cases hlt : j < 4
    · have hji : (j : Int) ≤ 3 := by omega
      have r0 := hK.cells
      have HLG := hide (hK.log hsz j (by omega))
      go_wp2_with fail
      refine (unhide HLG).mono ?_
      rintro e wl ⟨la, lc, rfl, hKl, hsl, hl, hne⟩
      have hszl : w1.heap.size ≤ wl.heap.size := by omega
      have h24 := unhide H24 j
      have HLL := hide (s.recs_succ j)
      have hl0 : wl.ownsRow 0 43 2 (.slice la (s.log j).length lc) (s.log j).length (recCells (s.log j)) := ownsRow_mono hl (Nat.zero_le _)
      have hla : ∀ b, u6.ownBlock = some b → ∀ x, la = some x → x.block ≠ b := by
        intro b hb x hx e
        have h1 := hne b hb
        obtain ⟨_, _, _, hq⟩ := rowBlock hl
        have h2 := (hq x.block (by rw [hx]; rfl)).1
        omega
      have hrl : (s.recs j).length ≤ 100 := by
        have : ∀ k, (s.recs k).length ≤ 24 * k := by
          intro k
          induction k with
          | zero => simp [St.recs]
          | succ k ih => rw [St.recs_succ]; have := unhide H24 k; simp; omega
        have := this j
        omega
      clear HLG hK hl hne r0
      generalize hm : (s.log j).length = m at *
      have HM := hide hm
      clear hm
      go_wp2_with fail
      go_loopw [5, 6, 10] (fun v1 v2 i wr => ∃ k : Nat, k ≤ m ∧ i = .int .i64 (k : Int) ∧ Kg w1 o rb wb wr s v1 v2 (s.recs j ++ ((s.log j).take k).map fun r => (j, r)) ∧ wl.heap.size ≤ wr.heap.size ∧ wr.ownsRow 0 43 2 (.slice la m lc) m (recCells (s.log j)) ∧ (∀ b, v2.ownBlock = some b → ∀ x, la = some x → x.block ≠ b)) (fun _ _ i _ => m - (intOf i).toNat)
      case atStart => exact ⟨0, by omega, rfl, by simpa using hKl, Nat.le_refl _, hl0, hla⟩
      case round =>
        clear hKl hl0 hla
        obtain ⟨k, hk, rfl, hK, hszk, hl0, hla⟩ := hrel
        by_cases hkl : k < m
        · have hki : (k : Int) < (m : Int) := by omega
          obtain ⟨r, hr⟩ : ∃ r, (s.log j)[k]? = some r := ⟨_, List.getElem?_eq_getElem (by rw [unhide HM]; exact hkl)⟩
          obtain ⟨g, e1, hmc, _, hcell⟩ := (Owns.of_row hl0).at (by simp; omega)
          dsimp only at e1 hmc
          subst e1
          have p0 : wr.cell? ⟨g, k * 2, none⟩ = some (.int .i64 (r.1 : Int)) := hcell _ _ (recCells_at hr).1
          have p1 : wr.cell? ⟨g, k * 2 + 1, none⟩ = some (.int .i64 (r.2 : Int)) := hcell _ _ (recCells_at hr).2
          have lg := World.block_lt_of_cell? wr _ p0
          simp only at lg
          have hlen : (s.recs j ++ ((s.log j).take k).map fun r => (j, r)).length ≤ 200 := by simp; omega
          have HR := hide (take_succ_map (fun r => (j, r)) _ _ _ hr)
          have HK := hide hK
          obtain ⟨_, _, _, _, _, _, _, r1, r2⟩ := hK
          generalize hpre : (s.recs j ++ ((s.log j).take k).map fun r => (j, r)) = pre at *
          have HPR := hide hpre
          clear hpre
          obtain ⟨a1, c1, rfl, q1⟩ := rowBlock r1
          obtain ⟨a2, c2, rfl, q2⟩ := rowBlock r2
          obtain ⟨i0, hi0, hz0, hz1, hz2⟩ := info_parts Tryz.infoInt
          obtain ⟨j0, hj0, hj1, hj2, hj3⟩ := info_parts Tryz.infoRec
          have HLA := hide hla
          have HL0 := hide hl0
          have HQ2 := hide q2
          clear hcell hla hl0 q1 q2 hr
          go_wp2_with (first
            | (at_builtin; refine wpList_append_own_at _ rfl _ _ 33 rfl w1.heap.size 43 j0 (.agg #[.int .i64 0, .int .i64 0]) 2 16 Tryz.underlying33 hj0 hj1 hj2 hj3 rfl (by decide) _ _ _ rfl (r2.alloc _) ⟨wr.heap.size, 0, none⟩ 1 1 [.int .i64 (r.1 : Int), .int .i64 (r.2 : Int)] rfl rfl (twoNew _ _ _ _) (by simp [Value.oneCell']) (by unfold maxLen; omega) (by omega) (by simp; omega) ?_; intro v2' w3 hown2 hgrow2 _ hnew2; have r1b := rowOther r1 r2 (by decide) hgrow2; have hbe2 := rowGrown r2 (by omega) hgrow2; have hs3 := hgrow2.size; rw [World.size_alloc] at hs3)
            | (at_builtin; refine wpList_append_own_at _ rfl _ _ 56 rfl w1.heap.size 3 i0 (.int .i64 0) 1 8 Tryz.underlying56 hi0 hz0 hz1 hz2 rfl (by decide) _ _ _ rfl (r1b.alloc _) ⟨w3.heap.size, 0, none⟩ 1 1 [.int .i64 (j : Int)] rfl rfl (cell_one_new _ _ _) (by simp [Value.oneCell']) (by unfold maxLen; omega) (by omega) (by simp; omega) ?_; intro v1' w4 hown1 hgrow1 _ hnew1))
          have r2b := rowOther hown2 r1b (by decide) hgrow1
          have hbe1 := rowGrown r1b (by omega) hgrow1
          have hs4 := hgrow1.size
          rw [World.size_alloc] at hs4
          have hK4 : Kg w1 o rb wb w4 s v1' v2' (pre ++ [(j, r)]) := (unhide HK).turned (by omega) (hbe2.trans hbe1) (by simpa using hown1) (by simpa [recCells_append, recCells] using r2b)
          have hl3 := rowFramed (w' := w3) (unhide HL0) fun b hb => (by
            simp only [Value.ownBlock, Option.some.injEq] at hb
            subst hb
            rw [hgrow2.block g (by simp; omega) fun e => unhide HLA g e.symm _ rfl rfl]
            exact Below.heap_alloc _ _ _ lg)
          have hl4 := rowOther hl3 r1b (by decide) hgrow1
          refine ⟨⟨k + 1, by omega, by go_num, by rw [unhide HR, ← List.append_assoc, unhide HPR]; exact hK4, by omega, hl4, ?_⟩, by simp [intOf]; omega⟩
          intro b hb x hx e
          simp only [Option.some.injEq] at hx
          subst hx
          rcases hnew2 with hn | hn
          · rw [hn] at hb
            exact unhide HLA b hb _ rfl e
          · rw [hn] at hb
            simp at hb
            simp only at e
            omega
        · have hki : ¬ (k : Int) < (m : Int) := by omega
          obtain rfl : k = m := by omega
          rw [List.take_of_length_le (by rw [unhide HM]; exact Nat.le_refl _), ← unhide HLL] at hK
          go_wp2
          exact ⟨⟨j + 1, by omega, by go_num, hK, by omega⟩, by simp [intOf]; omega⟩
    · obtain rfl : j = 4 := by omega
      go_wp2
      exact bodyPost_ret (v := .tuple #[u5, u6, .bool true]) (by simp [results, Tryz.results33, go_sem]) rfl ⟨u5, u6, rfl, hK⟩
end Go.Proofs.YtekbjlhbjcikdaaGreat
/-
  What the rounds of Gone keep of the program's world and of all that lies beside it.
-/
namespace Go.Proofs.YtekbjlhbjcikdaaGreat
open Go.RowKit Go.Shelf Acc Go.MuLone

/-- What the rounds may touch: the world's own blocks, and the counter's box. -/
def ownC (bc : Nat) (L : Lay) (b : Nat) : Option Tag := if b = bc then some .world else own2 L b
theorem ownC_none {bc b : Nat} {L : Lay} : ownC bc L b = none ↔ b ≠ bc ∧ own2 L b = none := by
  unfold ownC
  by_cases h : b = bc
  · simp [h]
  · simp [h]

/-- The world, gone on since w3. -/
def Gz (w3 : World) (Lc : Lay) (wb bc : Nat) (s : St) (W : World) : Prop :=
  ∃ L' s', L'.wb = wb ∧ RepW W L' s' ∧ Ok s' ∧ s'.parts = 3 ∧ s'.deals = s.deals ∧ (∀ b, own2 L' b ≠ none → Foot L' s' b) ∧ own2 L' bc = none ∧ Ext (ownC bc Lc) w3 (ownC bc L') W

theorem Gz.keep {w3 W : World} {Lc : Lay} {wb bc : Nat} {s : St} (h : Gz w3 Lc wb bc s W) {b : Nat} (hb : b < w3.heap.size) (hn : own2 Lc b = none) (hne : b ≠ bc) : W.heap[b]? = w3.heap[b]? := by
  obtain ⟨L', s', _, _, _, _, _, _, _, hE⟩ := h
  exact (hE.keep b hb (ownC_none.2 ⟨hne, hn⟩)).1
theorem Gz.size {w3 W : World} {Lc : Lay} {wb bc : Nat} {s : St} (h : Gz w3 Lc wb bc s W) : w3.heap.size ≤ W.heap.size := by
  obtain ⟨L', s', _, _, _, _, _, _, _, hE⟩ := h
  exact hE.size

/-- It abides the turn of what is no cells and lies beyond. -/
theorem Gz.own {w3 X Y : World} {Lc : Lay} {wb bc : Nat} {s : St} {row : Option Nat} (h : Gz w3 Lc wb bc s X) (hg : X.grownBy Y row) (hr : ∀ r, row = some r → w3.heap.size ≤ r ∧ ∃ o : Obj, X.heap[r]? = some o ∧ o.isCells = false) : Gz w3 Lc wb bc s Y := by
  obtain ⟨L', s', e, hR, hk, h3, hd, hc, hn, hE⟩ := h
  refine ⟨L', s', e, hR.framed hg.size fun b hb => ?_, hk, h3, hd, hc, hn, hg.os.trans hE.os, hg.tape.trans hE.tape, hg.output.trans hE.output, Nat.le_trans hE.size hg.size, fun b hb ho => ?_⟩
  · obtain ⟨c, t, z, hcell⟩ := (hc b hb).cells hR
    refine hg.block b (Array.getElem?_eq_some_iff.1 hcell).1 fun e => ?_
    obtain ⟨_, o, ho, hoc⟩ := hr b e.symm
    rw [hcell] at ho
    cases ho
    cases hoc
  · obtain ⟨k1, k2⟩ := hE.keep b hb ho
    refine ⟨(hg.block b (Nat.lt_of_lt_of_le hb hE.size) fun e => ?_).trans k1, k2⟩
    have := (hr b e.symm).1
    omega

theorem heap_setCell_ne {W : World} {bc b : Nat} {v : Value} (h : b ≠ bc) : (W.setCell ⟨bc, 0, none⟩ v).heap[b]? = W.heap[b]? := block_setCell (fun e => h (by simpa using e))

theorem Gz.set {w3 W : World} {Lc : Lay} {wb bc : Nat} {s : St} (h : Gz w3 Lc wb bc s W) (v : Value) : Gz w3 Lc wb bc s (W.setCell ⟨bc, 0, none⟩ v) := by
  obtain ⟨L', s', e, hR, hk, h3, hd, hc, hn, hE⟩ := h
  refine ⟨L', s', e, hR.framed (by simp [World.setCell]) fun b hb => heap_setCell_ne fun e => hb (by rw [e]; exact hn), hk, h3, hd, hc, hn, hE.os, hE.tape, hE.output, by simpa [World.setCell] using hE.size, fun b hb ho => ?_⟩
  obtain ⟨k1, k2⟩ := hE.keep b hb ho
  exact ⟨(heap_setCell_ne (ownC_none.1 ho).1).trans k1, k2⟩

theorem Gz.keptSet {w3 W : World} {Lc : Lay} {wb bc n₀ : Nat} {s : St} (h : Gz w3 Lc wb bc s W) (hb : bc < n₀) (v : Value) : Kept n₀ (Tg wb) W (W.setCell ⟨bc, 0, none⟩ v) := by
  obtain ⟨L', s', rfl, hR, hk, h3, hd, hc, hn, hE⟩ := h
  have hR' : RepW (W.setCell ⟨bc, 0, none⟩ v) L' s' := hR.framed (by simp [World.setCell]) fun b hb => heap_setCell_ne fun e => hb (by rw [e]; exact hn)
  refine ⟨by simp [World.setCell], fun b c t z hbn _ hT => ⟨heap_setCell_ne (by omega), ?_⟩⟩
  rw [Tg.iff hR] at hT
  rw [Tg.iff hR']
  exact hT

/-- A call that does something with the world. -/
theorem Gz.act {w3 W : World} {Lc : Lay} {wb bc n₀ B : Nat} {s : St} {f : Nat} {args : Array Value} (h : Gz w3 Lc wb bc s W) {t : TypeId} {v : Value} (hv : Boxed W bc t v) (g : St → St) (hg : ∀ s, Ok s → Ok (g s) ∧ (g s).deals = s.deals ∧ (g s).parts = s.parts)
    (hc : ∀ L s, L.wb = wb → RepW W L s → Ok s → Calls Tryz.prog f args W fun e w' => (∃ u, e = .returned u) ∧ LeavesW L W (g s) w') :
    Calls Tryz.prog f args W fun e w' => (∃ u, e = .returned u) ∧ Gz w3 Lc wb bc s w' ∧ KeepsFrom B W w' ∧ Kept n₀ (Tg wb) W w' ∧ Boxed w' bc t v := by
  obtain ⟨L', s', rfl, hR, hk, h3, hd, hcut, hn, hE⟩ := h
  refine (hc L' s' rfl hR hk).mono ?_
  rintro e w' ⟨he, hl⟩
  refine ⟨he, ?_, hl.others hR hcut, hl.kept hR hcut, ?_⟩
  · obtain ⟨L2, e1, -, hR2, hE2⟩ := hl
    obtain ⟨q1, q2, q3⟩ := hg s' hk
    obtain ⟨c1, c2, c3⟩ := hR2.cut
    have hn2 : own2 L2 bc = none := (hE2.keep bc hv.lt hn).2
    refine ⟨L2.cut (g s'), g s', e1, c1, q1, by rw [q3]; exact h3, by rw [q2]; exact hd, c2, c3 _ hn2, hE2.os.trans hE.os, hE2.tape.trans hE.tape, hE2.output.trans hE.output, Nat.le_trans hE.size hE2.size, fun b hb ho => ?_⟩
    obtain ⟨k1, k2⟩ := hE.keep b hb ho
    obtain ⟨j1, j2⟩ := hE2.keep b (Nat.lt_of_lt_of_le hb hE.size) (ownC_none.1 k2).2
    exact ⟨j1.trans k1, ownC_none.2 ⟨(ownC_none.1 k2).1, c3 _ j2⟩⟩
  · obtain ⟨L2, e1, -, hR2, hE2⟩ := hl
    exact ((hE2.keep bc hv.lt hn).1).trans hv

/-- Behind the rounds the run stands as a run stands. -/
theorem Gz.back {w2 w3 W : World} {L2 : Lay} {K2 : KLay} {bc : Nat} {s : St} (hp : Kp w2 L2 K2 s) (hb : Below w2.heap.size w2 w3) (hbc : w2.heap.size ≤ bc) (h : Gz w3 (L2.cut s) L2.wb bc s W) :
    ∃ L' s', L'.wb = L2.wb ∧ Kp W L' K2 s' ∧ Ext (ownK L2 K2) w2 (ownK L' K2) W ∧ ∀ b, own2 L' b ≠ none → ∃ c t z, W.heap[b]? = some (Obj.cells c t z) := by
  obtain ⟨L', s', e, hR, hk, h3, hd, hc, hn, hE⟩ := h
  obtain ⟨_, _, c3⟩ := hp.rep.cut
  have hkeep : ∀ b, b < w2.heap.size → own2 L2 b = none → W.heap[b]? = w2.heap[b]? ∧ own2 L' b = none := by
    intro b hlt ho
    obtain ⟨k1, k2⟩ := hE.keep b (Nat.lt_of_lt_of_le hlt hb.size) (ownC_none.2 ⟨by omega, c3 b ho⟩)
    exact ⟨k1.trans (hb.block b hlt), (ownC_none.1 k2).2⟩
  refine ⟨L', s', e, ⟨hR, ?_, ?_, hk, h3⟩, ⟨?_, ?_, ?_, Nat.le_trans hb.size hE.size, ?_⟩, fun b hb => (hc b hb).cells hR⟩
  · rw [e, hd]
    exact hp.run.frame (Nat.le_trans hb.size hE.size) fun b t hbt => (hkeep b (hp.run.lt b t hbt) (hp.ap b t hbt)).1
  · exact fun b t hbt => (hkeep b (hp.run.lt b t hbt) (hp.ap b t hbt)).2
  · exact hE.os.trans hb.os
  · exact hE.tape.trans hb.tape
  · exact hE.output.trans hb.output
  · intro b hlt ho
    obtain ⟨o1, o2⟩ := ownK_none.1 ho
    obtain ⟨k1, k2⟩ := hkeep b hlt o1
    exact ⟨k1, ownK_none.2 ⟨k2, o2⟩⟩

/-- Where the rounds begin. -/
theorem Gz.start {w3 : World} {L2 : Lay} {bc : Nat} {s : St} (hR : RepW w3 L2 s) (hk : Ok s) (h3 : s.parts = 3) (hn : own2 L2 bc = none) : Gz w3 (L2.cut s) L2.wb bc s w3 := by
  obtain ⟨c1, c2, c3⟩ := hR.cut
  exact ⟨L2.cut s, s, rfl, c1, hk, h3, rfl, c2, c3 _ hn, Ext.refl _ _⟩

theorem grown_drew (W : World) : W.grownBy W.drew none := by
  have hb := (Below.refl W.heap.size W).drew
  exact ⟨hb.os, hb.tape, hb.output, hb.size, fun k hk _ => hb.block k hk⟩
theorem Gz.drew {w3 W : World} {Lc : Lay} {wb bc : Nat} {s : St} (h : Gz w3 Lc wb bc s W) : Gz w3 Lc wb bc s W.drew := h.own (grown_drew W) (fun r e => by cases e)
theorem keptDrew {wb n₀ : Nat} {W : World} : Kept n₀ (Tg wb) W W.drew := by
  have hb := (Below.refl W.heap.size W).drew
  exact ⟨hb.size, fun b c t z _ hc hT => ⟨hb.block b (Array.getElem?_eq_some_iff.1 hc).1, Tg.turn hb.size (fun b c t z hc => hb.block b (Array.getElem?_eq_some_iff.1 hc).1) hT⟩⟩
theorem prefix_at {α : Type} {pre l : List α} {x : α} (h : pre ++ [x] <+: l) : l[pre.length]? = some x := by
  obtain ⟨t, rfl⟩ := h
  simp
theorem prefix_snoc {α : Type} {pre l : List α} {x : α} (h : pre <+: l) (hx : l[pre.length]? = some x) : pre ++ [x] <+: l := by
  obtain ⟨t, rfl⟩ := h
  cases t with
  | nil => simp at hx
  | cons y t => simp at hx; subst hx; exact ⟨t, by simp⟩

theorem Gz.deliver {w3 W : World} {Lc : Lay} {wb bc n₀ B : Nat} {s : St} (h : Gz w3 Lc wb bc s W) {t : TypeId} {v : Value} (hv : Boxed W bc t v) (i : Int) :
    Calls Tryz.prog 34 #[.pointer (some ⟨wb, 0, none⟩), .int .i64 i] W fun e w' => (∃ u, e = .returned u) ∧ Gz w3 Lc wb bc s w' ∧ KeepsFrom B W w' ∧ Kept n₀ (Tg wb) W w' ∧ Boxed w' bc t v := by
  refine h.act hv (fun s => (s.deliverP i).1) (fun s hk => ⟨hk.deliverP i, ?_, ?_⟩) fun L s e hR hk => ?_
  · unfold St.deliverP; split; exact (dlv_deals _ _).1; rfl
  · unfold St.deliverP; split; exact (dlv_deals _ _).2; rfl
  · rw [← e]
    exact (deliver_any hR hk i).mono fun _ _ hh => ⟨⟨_, hh.1⟩, hh.2⟩
theorem Gz.tick {w3 W : World} {Lc : Lay} {wb bc n₀ B : Nat} {s : St} (h : Gz w3 Lc wb bc s W) {t : TypeId} {v : Value} (hv : Boxed W bc t v) (i : Int) :
    Calls Tryz.prog 26 #[.pointer (some ⟨wb, 0, none⟩), .int .i64 i] W fun e w' => (∃ u, e = .returned u) ∧ Gz w3 Lc wb bc s w' ∧ KeepsFrom B W w' ∧ Kept n₀ (Tg wb) W w' ∧ Boxed w' bc t v := by
  refine h.act hv (fun s => (s.tickP i).1) (fun s hk => ⟨hk.tickP i, ?_, ?_⟩) fun L s e hR hk => ?_
  · unfold St.tickP; split; exact (tick_deals _ _).1; rfl
  · unfold St.tickP; split; exact (tick_deals _ _).2; rfl
  · rw [← e]
    exact (tick_any hR hk i).mono fun _ _ hh => ⟨⟨_, hh.1⟩, hh.2⟩

/-- Between two rounds. -/
def GoneI (w3 : World) (Lc : Lay) (wb bc kk : Nat) (s : St) (pre : List (Nat × (Nat × Nat))) (W : World) : Prop :=
  pre <+: s.recs 4 ∧ pre.length ≤ kk ∧ Boxed W bc 3 (.int .i64 (pre.length : Int)) ∧ Gz w3 Lc wb bc s W
/-- Where a round has left: by break, or by return, having met what is no record of its place. -/
def GoneX (w3 : World) (Lc : Lay) (wb bc kk : Nat) (s : St) (c : Code) (pre : List (Nat × (Nat × Nat))) (W : World) : Prop :=
  (c = .exit 4 ∧ ∃ q x, pre = q ++ [x] ∧ q.length = kk ∧ GoneI w3 Lc wb bc kk s q W) ∨ ¬ pre <+: s.recs 4
theorem goneI_own (w3 : World) (Lc : Lay) (wb bc kk : Nat) (s : St) : OwnFrom w3.heap.size (GoneI w3 Lc wb bc kk s) := by
  rintro pre X Y row ⟨h1, h2, h3, h4⟩ hg hr
  refine ⟨h1, h2, h3.kept hg fun e => ?_, h4.own hg hr⟩
  obtain ⟨_, o, ho, hoc⟩ := hr bc e.symm
  rw [show X.heap[bc]? = _ from h3] at ho
  cases ho
  cases hoc
theorem goneX_own (w3 : World) (Lc : Lay) (wb bc kk : Nat) (s : St) (c : Code) : OwnFrom w3.heap.size (GoneX w3 Lc wb bc kk s c) := by
  rintro pre X Y row (⟨h1, q, x, h2, h3, h4⟩ | h) hg hr
  · exact .inl ⟨h1, q, x, h2, h3, goneI_own w3 Lc wb bc kk s q X Y row h4 hg hr⟩
  · exact .inr h
end Go.Proofs.YtekbjlhbjcikdaaGreat
/-
  A region that draws its order, in a round: where the frame is told by what has been carried out.
-/
namespace Go.Proofs.YtekbjlhbjcikdaaGreat
open Go.RowKit Go.Shelf Acc

theorem cnt_lt (p q : Nat → Bool) (i : Nat) (h : ∀ j, q j = true → p j = true) (hp : p i = true) (hq : q i = false) (l : List Nat) : l.countP q ≤ l.countP p ∧ (i ∈ l → l.countP q < l.countP p) := by
  induction l with
  | nil => simp
  | cons x r ih =>
    simp only [List.countP_cons]
    refine ⟨?_, fun hi => ?_⟩
    · by_cases hx : q x = true
      · simp [hx, h x hx]; exact ih.1
      · simp [hx]; omega
    · by_cases hxi : x = i
      · subst hxi
        simp [hp, hq]
        have := ih.1
        omega
      · have hm : i ∈ r := by
          rcases List.mem_cons.1 hi with e | e
          · exact absurd e.symm hxi
          · exact e
        have h2 := ih.2 hm
        by_cases hx : q x = true
        · simp [hx, h x hx]; exact h2
        · simp [hx]; omega

section
variable {F : Fence} {n : Nat} {P : Program} {ops : Array Oper} {Q : Exit → Act → World → Prop} {md : Region.Mode} {w : World}

/-- How many are still to be carried out. -/
def leftOf (k : Nat) (listed : Array Bool) : Nat := (List.range k).countP fun i => !listed.getD i true

theorem getD_put {listed : Array Bool} {i : Nat} (hi : i < listed.size) (j : Nat) (d : Bool) : (listed.setIfInBounds i true).getD j d = if j = i then true else listed.getD j d := by
  by_cases h : j = i
  · subst h; simp [Array.getD, hi]
  · rw [if_neg h]; exact getD_set_ne d (fun e => h e.symm)

theorem ready_nil {listed : Array Bool} (hs : listed.size = ops.size) (hback : ∀ (i : Nat) (o : Oper), ops[i]? = some o → ∀ e : Edge, e ∈ o.after → e.on < i) (hr : Region.ready md ops listed = []) : listed = Array.replicate ops.size true := by
  have key : ∀ i, i < ops.size → listed.getD i true = true := by
    intro i
    induction i using Nat.strongRecOn with
    | _ i ih =>
      intro hi
      by_cases h : listed.getD i true = true
      · exact h
      · exfalso
        have hm : i ∈ Region.ready md ops listed := mem_ready.2 ⟨by simpa using h, ops[i], Array.getElem?_eq_getElem hi, fun e he _ => by
          have hlt := hback i _ (Array.getElem?_eq_getElem hi) e he
          have h1 := ih e.on hlt (by omega)
          have h2 : e.on < listed.size := by omega
          simp only [Array.getD, h2, dite_true] at h1 ⊢
          exact h1⟩
        rw [hr] at hm
        cases hm
  apply Array.ext
  · simp [hs]
  · intro i h1 h2
    have := key i (by omega)
    simp only [Array.getD, h1, dite_true] at this
    simpa using this

/-- The frame and the world are told by what has been carried out. -/
theorem wpAnyIn_frames (R : Array Bool → Act → World → Prop) (hback : ∀ (i : Nat) (o : Oper), ops[i]? = some o → ∀ e : Edge, e ∈ o.after → e.on < i)
    (hend : ∀ a w, R (Array.replicate ops.size true) a w → Q .normal a w)
    (hstep : ∀ (listed : Array Bool) (i : Nat) (a : Act) (w : World), R listed a w → listed.size = ops.size → i < ops.size → listed.getD i true = false → (∀ o : Oper, ops[i]? = some o → ∀ e : Edge, e ∈ o.after → Region.binds md e = true → listed.getD e.on false = true) → ∀ K : Act → World → Prop, (∀ a' w', R (listed.setIfInBounds i true) a' w' → K a' w') → wpOpIn F n P ops Q i K a w) :
    ∀ (fuel : Nat) (listed : Array Bool) (a : Act) (w : World), R listed a w → listed.size = ops.size → leftOf ops.size listed ≤ fuel → wpAnyIn F n P md ops Q fuel listed a w := by
  intro fuel
  induction fuel with
  | zero =>
    intro listed a w hR hs hl
    have hr : Region.ready md ops listed = [] := by
      cases h : Region.ready md ops listed with
      | nil => rfl
      | cons i r =>
        have hm : i ∈ Region.ready md ops listed := by rw [h]; exact List.mem_cons_self
        obtain ⟨h2, o, h1, _⟩ := mem_ready.1 hm
        have h1 := (Array.getElem?_eq_some_iff.1 h1).1
        have : 0 < leftOf ops.size listed := List.countP_pos_iff.2 ⟨i, List.mem_range.2 h1, by simp [h2]⟩
        omega
    refine ⟨hr, hend a w ?_⟩
    rw [← ready_nil hs hback hr]
    exact hR
  | succ fuel ih =>
    intro listed a w hR hs hl
    refine ⟨fun hr => hend a w ?_, fun i hi => ?_⟩
    · rw [← ready_nil hs hback hr]
      exact hR
    · obtain ⟨h2, o, ho, h3⟩ := mem_ready.1 hi
      have h1 := (Array.getElem?_eq_some_iff.1 ho).1
      refine hstep listed i a w hR hs h1 h2 (fun o' ho' => by rw [ho] at ho'; cases ho'; exact h3) _ fun a' w' hR' => ih _ a' w' hR' (by simpa using hs) ?_
      have hlt := (cnt_lt (fun j => !listed.getD j true) (fun j => !(listed.setIfInBounds i true).getD j true) i (fun j hj => ?_) (by show (!listed.getD i true) = true; rw [h2]; rfl) (by show (!(listed.setIfInBounds i true).getD i true) = false; rw [getD_put (by omega)]; simp) (List.range ops.size)).2 (List.mem_range.2 h1)
      · unfold leftOf at hl ⊢
        omega
      · have hj' : (!(listed.setIfInBounds i true).getD j true) = true := hj
        show (!listed.getD j true) = true
        rw [getD_put (by omega)] at hj'
        split at hj'
        · simp at hj'
        · exact hj'

theorem back_of (h : ((List.range ops.size).all fun i => ((ops[i]?).map fun o : Oper => o.after.all fun e => decide (e.on < i)).getD true) = true) : ∀ (i : Nat) (o : Oper), ops[i]? = some o → ∀ e : Edge, e ∈ o.after → e.on < i := by
  intro i o ho e he
  have hi := (Array.getElem?_eq_some_iff.1 ho).1
  have h1 := List.all_eq_true.1 h i (List.mem_range.2 hi)
  rw [ho] at h1
  simp only [Option.map_some, Option.getD_some, Array.all_eq_true_iff_forall_mem] at h1
  exact of_decide_eq_true (h1 e he)

theorem wpAnyIn_start {fuel : Nat} {listed : Array Bool} {t : Array Value} {df : List Deferred} {w : World} (g : Array Value → Act) (h : ({ tmps := t, defers := df } : Act) = g t) (h2 : ∀ T, wpAnyIn F n P md ops Q fuel listed (g T) w) : wpAnyIn F n P md ops Q fuel listed { tmps := t, defers := df } w := by
  rw [h]
  exact h2 t

theorem left_all (k : Nat) : leftOf k (Array.replicate k false) ≤ k := by
  unfold leftOf
  exact Nat.le_trans List.countP_le_length (by simp)

/-- One operation, as the walk over a list takes it. -/
theorem wpOpIn_of_list {i : Nat} {o : Oper} {K : Act → World → Prop} {a : Act} {w : World} (ho : ops[i]? = some o) (h : wpListIn F n P ops (Exit.then K Q) [o] a w) : wpOpIn F n P ops Q i K a w := by
  unfold wpOpIn
  rw [ho]
  simp only [wpListIn] at h ⊢
  split
  · rename_i hw
    rw [if_pos hw] at h
    refine ⟨h.1, ?_⟩
    have h2 := h.2
    generalize (o.semAt F.round a.eval).run P w = r at h2
    cases r with
    | ok x w' => cases x <;> exact h2
    | halt x w' => cases x <;> exact h2
  · rename_i hw
    rw [if_neg hw] at h
    exact h
end
end Go.Proofs.YtekbjlhbjcikdaaGreat
