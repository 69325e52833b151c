/-
  What becomes of the world in memory when a transaction is added, when a vote is noted.
-/
import Derived.Test.YtekbjlhbjcikdaaGreatW8
namespace Go.Proofs.YtekbjlhbjcikdaaGreat
open Go.RowKit Acc

theorem wrCells_at (ws : List Wr) (j : Nat) (v : Value) (h : (wrCells ws)[j]? = some v) : ∃ i x, ws[i]? = some x ∧
    (j = i * 3 ∧ v = .int .i64 x.part ∨ j = i * 3 + 1 ∧ v = .int .i64 x.key ∨ j = i * 3 + 2 ∧ v = .int .i64 x.val) := by
  induction ws generalizing j with
  | nil => simp [wrCells] at h
  | cons y r ih =>
    match j, h with
    | 0, h => exact ⟨0, y, rfl, .inl ⟨rfl, by simpa [wrCells] using h.symm⟩⟩
    | 1, h => exact ⟨0, y, rfl, .inr (.inl ⟨rfl, by simpa [wrCells] using h.symm⟩)⟩
    | 2, h => exact ⟨0, y, rfl, .inr (.inr ⟨rfl, by simpa [wrCells] using h.symm⟩)⟩
    | j + 3, h =>
      obtain ⟨i, x, hx, hh⟩ := ih j (by simpa [wrCells] using h)
      refine ⟨i + 1, x, by simpa using hx, ?_⟩
      rcases hh with ⟨a, b⟩ | ⟨a, b⟩ | ⟨a, b⟩
      · exact .inl ⟨by omega, b⟩
      · exact .inr (.inl ⟨by omega, b⟩)
      · exact .inr (.inr ⟨by omega, b⟩)

theorem addr_add_at (g o j : Nat) : (⟨g, o, none⟩ : Addr).add j = ⟨g, o + j, none⟩ := by unfold Addr.add; split <;> simp_all

theorem WrAt.src {w : World} {a : Option Addr} {ws : List Wr} (h : WrAt w a ws) : a = none ∧ wrCells ws = [] ∨ ∃ ad, a = some ad ∧ ∀ j v, (wrCells ws)[j]? = some v → w.cell? (ad.add j) = some v := by
  rcases h with rfl | ⟨g, o, rfl, hg, hc⟩
  · cases a with
    | none => exact .inl ⟨rfl, rfl⟩
    | some ad => exact .inr ⟨ad, rfl, fun j v hv => by simp [wrCells] at hv⟩
  · refine .inr ⟨_, rfl, fun j v hv => ?_⟩
    rw [addr_add_at]
    obtain ⟨i, x, hx, hh⟩ := wrCells_at ws j v hv
    obtain ⟨c0, c1, c2⟩ := hc i x hx
    rcases hh with ⟨rfl, rfl⟩ | ⟨rfl, rfl⟩ | ⟨rfl, rfl⟩
    · exact c0
    · exact c1
    · exact c2

set_option maxRecDepth 100000 in
set_option maxHeartbeats 1000000 in
theorem dealMake_any (a : Option Addr) (n cap : Nat) (ws : List Wr) (w : World) (hn : ws.length = n) (hm : n ≤ 1000000) (hw : WrAt w a ws) :
    Calls Tryz.prog 117 #[.slice a n cap] w fun e w' => ∃ g, e = .returned (.agg #[.slice (some ⟨g, 0, none⟩) n n]) ∧ Below w.heap.size w w' ∧
      w'.ownsRow w.heap.size 74 3 (.slice (some ⟨g, 0, none⟩) n n) n (wrCells ws) := by
  have HN := hide hn
  clear hn
  obtain ⟨i0, hi, hz0, hz1, hz2⟩ := info_parts Tryz.infoWr
  go_enter Tryz.func117, Tryz.ntmps117
  go_wp2_with (first
    | at_make; refine wpList_make_full _ rfl _ _ 52 rfl (w.heap.size + 1) 74 i0 (.agg #[.int .i64 0, .int .i64 0, .int .i64 0]) 3 Tryz.underlying52 hi hz0 hz1 _ _ _ _ n rfl rfl rfl rfl (by rw [hz2]; omega) (by unfold maxLen; omega) (by simp) ?_; intro w1 hown1 hgrow1; have hb1 : Below (w.heap.size + 1) (w.alloc (Obj.cells #[Value.slice none 0 0] 133)) w1 := (Below.refl _ _).grown hgrow1 (by simp) (by intro k hk; cases hk); clear hgrow1; generalize hmc : madeCells _ _ = mc at hown1; have HM := hide hmc; clear hmc
    | refine wpList_copy_whole rfl (.tmp 7) (.tmp 8) 52 52 rfl 74 i0 3 Tryz.underlying52 hi hz1 (w.heap.size + 1) n n a cap rfl rfl mc 74 (wrCells ws) (by exact ownsRow_full (by simpa using hown1)) (by have := hown1.1; simpa using this) (by rw [wrCells_length, unhide HN]) (by exact WrAt.src (hw.below ((below_alloc _ _).trans (hb1.mono (by omega))))) (wrCells_one _) ?_; have hb2 : Below (w.heap.size + 1) (w.alloc (Obj.cells #[Value.slice none 0 0] 133)) (w1.setRow (w.heap.size + 1) (wrCells ws).toArray) := belowSetRow hb1 (by omega) _; have hown2 := ownsRow_setRow (ys := wrCells ws) (by simpa using hown1) rfl (by rw [wrCells_length, unhide HN]); generalize w1.setRow (w.heap.size + 1) (wrCells ws).toArray = w2 at *; obtain ⟨hcell, hfz⟩ := bcell (W := w.alloc (Obj.cells #[Value.slice none 0 0] 133)) (hb2.mono (by simp)); clear hown1 HM)
  have hs2 := hb2.size
  simp at hs2
  refine bodyPost_ret (v := .agg #[.slice (some ⟨w.heap.size + 1, 0, none⟩) n n]) ?_ rfl ⟨w.heap.size + 1, rfl, ?_, ?_⟩
  · simp [results, Tryz.results117, go_sem, hcell]
  · exact ((below_alloc _ _).trans (hb2.mono (by omega))).setCell (Nat.le_refl _) _
  · exact (ownsRow_mono (ownsRow_setCell_below hown2 (by simp) _) (by omega))

theorem getD_snoc {α : Type} (l : List α) (x d : α) (t : Nat) : (l ++ [x]).getD t d = if t = l.length then x else l.getD t d := by
  by_cases h : t < l.length
  · rw [if_neg (by omega)]; simp [List.getD, List.getElem?_append_left h]
  · by_cases h' : t = l.length
    · subst h'; simp [List.getD]
    · rw [if_neg h']
      have h1 : l[t]? = none := List.getElem?_eq_none (by omega)
      have h2 : (l ++ [x])[t]? = none := List.getElem?_eq_none (by simp; omega)
      simp [List.getD, h1, h2]

theorem Rep.dealt {w w3 : World} {L : Lay} {s : St} (h : Rep w L s) (ws : List Wr) {k g n cap' : Nat} (hu : Upd w w3 L.own .deals k)
    (ho : w3.ownsRow 0 133 1 (.slice (some ⟨k, 0, none⟩) (s.deals.length + 1) cap') (s.deals.length + 1) (slCells L.dl s.deals.length ++ [.slice (some ⟨g, 0, none⟩) n n]))
    (hd : w3.ownsRow 0 74 3 (.slice (some ⟨g, 0, none⟩) n n) n (wrCells ws)) (hgn : L.own g = none) (hgs : w.heap.size ≤ g) (hgk : g ≠ k) (hgl : g < w3.heap.size) :
    Leaves L w (St.deal' s ws) (w3.setCell ⟨L.nb, 1, none⟩ (.slice (some ⟨k, 0, none⟩) (s.deals.length + 1) cap')) := by
  have hk := hu.tagged
  have bn : w3.heap[L.nb]? = w.heap[L.nb]? := hu.keep _ _ h.tn (by simp)
  have ba : w3.heap[L.ab]? = w.heap[L.ab]? := hu.keep _ _ h.ta (by simp)
  have nab : L.ab ≠ L.nb := tag_ne h.ta h.tn (by simp)
  have knb : k ≠ L.nb := by
    intro e; rw [e] at hk
    rcases hk with hk | hk <;> rw [h.tn] at hk <;> cases hk
  have gnb : g ≠ L.nb := by
    intro e; rw [e, h.tn] at hgn; cases hgn
  have cN : ∀ o, o ≠ 1 → (w3.setCell ⟨L.nb, 1, none⟩ (.slice (some ⟨k, 0, none⟩) (s.deals.length + 1) cap')).cell? ⟨L.nb, o, none⟩ = w.cell? ⟨L.nb, o, none⟩ := fun o ho => by
    rw [World.cell?_setCell_other _ _ _ _ (by intro e'; injection e' with _ e'; exact ho e'.symm)]; exact World.cell?_of_block (a := ⟨L.nb, o, none⟩) bn
  have fN : ∀ o, w3.frozen? ⟨L.nb, o, none⟩ = w.frozen? ⟨L.nb, o, none⟩ := fun o => World.frozen?_of_block (a := ⟨L.nb, o, none⟩) bn
  have cA : ∀ o, (w3.setCell ⟨L.nb, 1, none⟩ (.slice (some ⟨k, 0, none⟩) (s.deals.length + 1) cap')).cell? ⟨L.ab, o, none⟩ = w.cell? ⟨L.ab, o, none⟩ := fun o => by
    rw [World.cell?_of_block (w := w3) (block_setCell nab)]; exact World.cell?_of_block (a := ⟨L.ab, o, none⟩) ba
  have fA : ∀ o, (w3.setCell ⟨L.nb, 1, none⟩ (.slice (some ⟨k, 0, none⟩) (s.deals.length + 1) cap')).frozen? ⟨L.ab, o, none⟩ = w.frozen? ⟨L.ab, o, none⟩ := fun o => by
    rw [World.frozen?_of_block (w := w3) (block_setCell nab)]; exact World.frozen?_of_block (a := ⟨L.ab, o, none⟩) ba
  have old : ∀ b u, L.own b = some u → u ≠ .deals → retag (retag L.own k .deals) g (.deal s.deals.length) b = some u := by
    intro b u hb hu'
    have h1 : retag L.own k .deals b = some u := retag_old hk hb hu'
    unfold retag at h1 ⊢
    rw [if_neg (by intro e; rw [e, hgn] at hb; cases hb)]
    exact h1
  have hext := hu.ext ⟨L.nb, 1, none⟩ h.tn (.slice (some ⟨k, 0, none⟩) (s.deals.length + 1) cap')
  refine ⟨{ L with dv := ⟨some ⟨k, 0, none⟩, s.deals.length + 1, cap'⟩, dl := fun t => if t = s.deals.length then ⟨some ⟨g, 0, none⟩, n, n⟩ else L.dl t, own := retag (retag L.own k .deals) g (.deal s.deals.length) }, rfl, rfl, ?_, ?_⟩
  · have hl : (St.deal' s ws).deals.length = s.deals.length + 1 := by simp [St.deal']
    refine ⟨(cN 0 (by omega)).trans h.c0, ?_, fun t m ht hm => (cN _ (by omega)).trans (h.cn t m ht hm), (cN 80 (by omega)).trans h.cf, ?_, fun i hi => (cA _).trans (h.ca i hi), fun i hi => (cA _).trans (h.cd i hi), fun i hi => (cA _).trans (h.cb i hi), fun i hi => (cA _).trans (h.cu i hi), fun o => (fA o).trans (h.fa o), ?_, ?_, ?_, ?_, old _ _ h.tn (by simp), old _ _ h.ta (by simp), ?_, ?_, ?_, ?_, ?_⟩
    · exact World.cell?_setCell_same _ _ _ ((World.cell?_of_block (a := ⟨L.nb, 1, none⟩) bn).trans h.c1)
    · intro o; simpa using (fN o).trans (h.fz o)
    · intro i hi
      refine (h.ol i hi).frame fun a ha => ?_
      rw [block_setCell (tag_ne (h.tl i hi a ha) h.tn (by simp))]
      exact hu.keep _ _ (h.tl i hi a ha) (by simp)
    · rw [hl]
      have e : slCells (fun t => if t = s.deals.length then (⟨some ⟨g, 0, none⟩, n, n⟩ : Sl) else L.dl t) (s.deals.length + 1) = slCells L.dl s.deals.length ++ [.slice (some ⟨g, 0, none⟩) n n] := by
        simp only [slCells, if_true]
        rw [slCells_congr _ L.dl s.deals.length (fun i hi => by rw [if_neg (by omega)])]
      show Owns _ _ _ _ (slCells (fun t => if t = s.deals.length then (⟨some ⟨g, 0, none⟩, n, n⟩ : Sl) else L.dl t) (s.deals.length + 1))
      rw [e]
      exact (Owns.of_row ho).frame fun a ha => by simp only [Option.some.injEq] at ha; subst ha; exact block_setCell knb
    · intro t ht
      rw [hl] at ht
      simp only [St.deal']
      rw [getD_snoc]
      by_cases e : t = s.deals.length
      · rw [if_pos e, if_pos e]
        exact (Owns.of_row hd).frame fun a ha => by simp only [Option.some.injEq] at ha; subst ha; exact block_setCell gnb
      · rw [if_neg e, if_neg e]
        refine (h.ow t (by omega)).frame fun a ha => ?_
        rw [block_setCell (tag_ne (h.tw t (by omega) a ha) h.tn (by simp))]
        exact hu.keep _ _ (h.tw t (by omega) a ha) (by simp)
    · refine h.om.frame fun a ha => ?_
      rw [block_setCell (tag_ne (h.tf a ha) h.tn (by simp))]
      exact hu.keep _ _ (h.tf a ha) (by simp)
    · exact fun i hi a ha => old _ _ (h.tl i hi a ha) (by simp)
    · intro a ha
      simp only [Option.some.injEq] at ha
      subst ha
      simp [retag, Ne.symm hgk]
    · intro t ht a ha
      rw [hl] at ht
      by_cases e : t = s.deals.length
      · simp only [if_pos e, Option.some.injEq] at ha
        subst ha
        simp [retag, e]
      · simp only [if_neg e] at ha
        exact old _ _ (h.tw t (by omega) a ha) (by simp)
    · exact fun a ha => old _ _ (h.tf a ha) (by simp)
    · intro b u hb
      have hsz : (w3.setCell ⟨L.nb, 1, none⟩ (.slice (some ⟨k, 0, none⟩) (s.deals.length + 1) cap')).heap.size = w3.heap.size := by simp [World.setCell]
      rw [hsz]
      simp only [retag] at hb
      split at hb
      · rename_i e; rw [e]; exact hgl
      · split at hb
        · rename_i e; rw [e]; exact hu.klt
        · exact Nat.lt_of_lt_of_le (h.lt b u hb) hu.size
  · refine ⟨hext.os, hext.tape, hext.output, hext.size, fun b hb hn => ?_⟩
    obtain ⟨h1, h2⟩ := hext.keep b hb hn
    refine ⟨h1, ?_⟩
    show retag (retag L.own k .deals) g (.deal s.deals.length) b = none
    unfold retag at h2 ⊢
    rw [if_neg (by omega)]
    exact h2

/-- A vote is noted. -/
theorem Rep.noted {w : World} {L : Lay} {s : St} (h : Rep w L s) (t m : Nat) (ht : t < 13) (hm : m < 6) :
    Leaves L w (s.note t m) (w.setCell ⟨L.nb, 2 + (6 * t + m), none⟩ (.bool true)) := by
  have nab : L.ab ≠ L.nb := tag_ne h.ta h.tn (by simp)
  have cN : ∀ o, o ≠ 2 + (6 * t + m) → (w.setCell ⟨L.nb, 2 + (6 * t + m), none⟩ (.bool true)).cell? ⟨L.nb, o, none⟩ = w.cell? ⟨L.nb, o, none⟩ := fun o ho =>
    World.cell?_setCell_other _ _ _ _ (by intro e'; injection e' with _ e'; exact ho e'.symm)
  have cA : ∀ o, (w.setCell ⟨L.nb, 2 + (6 * t + m), none⟩ (.bool true)).cell? ⟨L.ab, o, none⟩ = w.cell? ⟨L.ab, o, none⟩ := fun o => World.cell?_of_block (w := w) (block_setCell nab)
  have fA : ∀ o, (w.setCell ⟨L.nb, 2 + (6 * t + m), none⟩ (.bool true)).frozen? ⟨L.ab, o, none⟩ = w.frozen? ⟨L.ab, o, none⟩ := fun o => World.frozen?_of_block (w := w) (block_setCell nab)
  refine ⟨L, rfl, rfl, ?_, rfl, rfl, rfl, by simp [World.setCell], fun b hb hn => ⟨block_setCell (fun e => by simp only at e; rw [e, h.tn] at hn; cases hn), hn⟩⟩
  refine ⟨(cN 0 (by omega)).trans h.c0, (cN 1 (by omega)).trans h.c1, ?_, (cN 80 (by omega)).trans h.cf, ?_, fun i hi => (cA _).trans (h.ca i hi), fun i hi => (cA _).trans (h.cd i hi), fun i hi => (cA _).trans (h.cb i hi), fun i hi => (cA _).trans (h.cu i hi), fun o => (fA o).trans (h.fa o), ?_, ?_, ?_, ?_, h.tn, h.ta, h.tl, h.td, h.tw, h.tf, ?_⟩
  · intro t' m' ht' hm'
    by_cases e : t' = t ∧ m' = m
    · obtain ⟨rfl, rfl⟩ := e
      have e : (s.note t' m').noted t' m' = true := by simp [St.note]
      rw [e]
      exact World.cell?_setCell_same _ _ _ (h.cn t' m' ht' hm')
    · have e2 : (s.note t m).noted t' m' = s.noted t' m' := by simp only [St.note]; rw [if_neg e]
      rw [e2]
      exact (cN _ (by omega)).trans (h.cn t' m' ht' hm')
  · intro o; simpa using h.fz o
  · intro i hi
    refine (h.ol i hi).frame fun a ha => ?_
    exact block_setCell (tag_ne (h.tl i hi a ha) h.tn (by simp))
  · exact h.od.frame fun a ha => block_setCell (tag_ne (h.td a ha) h.tn (by simp))
  · exact fun t' ht' => (h.ow t' ht').frame fun a ha => block_setCell (tag_ne (h.tw t' ht' a ha) h.tn (by simp))
  · exact h.om.frame fun a ha => block_setCell (tag_ne (h.tf a ha) h.tn (by simp))
  · intro b u hb
    have := h.lt b u hb
    simpa [World.setCell] using this

theorem Wf.deal' {s : St} (h : Wf s) (hd : s.deals.length < 12) (ws : List Wr) (hw : ws.length ≤ 6) : Wf (s.deal' ws) where
  p1 := h.p1
  p5 := h.p5
  d12 := by simp [St.deal']; omega
  w6 := fun t => by
    simp only [St.deal']
    rw [getD_snoc]
    split
    · exact hw
    · exact h.w6 t
  ll := h.ll
  lt := fun n x hn hx => by
    have := h.lt n x hn hx
    simp [St.deal']; omega
  fb := h.fb

set_option maxRecDepth 100000 in
set_option maxHeartbeats 1000000 in
theorem nodesAdd_any {w : World} {L : Lay} {s : St} (h : Rep w L s) (hd : s.deals.length < 12) (a : Option Addr) (n cap : Nat) (ws : List Wr) (hn : ws.length = n) (hm : n ≤ 6) (hw : WrAt w a ws) :
    Calls Tryz.prog 78 #[.pointer (some ⟨L.nb, 0, none⟩), .slice a n cap] w fun e w' => e = .returned (.int .i64 ((s.deals.length + 1 : Nat) : Int)) ∧ Leaves L w (s.deal' ws) w' := by
  have c1 := h.c1
  have hnb := World.block_lt_of_cell? w _ c1
  have HN := hide hn
  clear hn
  have HD := hide (by have := h.od.len; rw [slCells_length] at this; omega : L.dv.n = s.deals.length)
  have hdn : L.dv.n < 12 := by rw [unhide HD]; exact hd
  have HW := hide hd
  clear hd
  obtain ⟨i0, hi, hz0, hz1, hz2⟩ := info_parts Tryz.infoDeal
  go_enter Tryz.func78, Tryz.ntmps78
  go_wp2_with fail
  go_region_law (first
    | (refine step_append_one rfl (.tmp 9) (.tmp 12) 119 rfl 133 i0 (.agg #[.slice none 0 0]) 1 24 Tryz.underlying119 hi hz0 hz1 hz2 rfl (by decide) L.dv.a L.dv.n L.dv.cap (slCells L.dl s.deals.length) rfl (by exact (World.ownsRow.alloc (hR1.od) _)) ⟨w1.heap.size, 0, none⟩ 1 [.slice (some ⟨g, 0, none⟩) n n] rfl rfl (by exact new_cells _ [.slice (some ⟨g, 0, none⟩) n n] _) (fun x hx => by simp at hx; subst hx; rfl) (by unfold maxLen; omega) (by omega) ?_; intro k cap' w3 g1 g2 g3; have hu := Upd.of_append h h.td (hbA.alloc hbA.size _) g1 g2 g3; have c13 := (World.cell?_of_block (a := ⟨L.nb, 1, none⟩) (hu.keep _ _ h.tn (by simp))).trans h.c1; have fz3 := (World.frozen?_of_block (a := ⟨L.nb, 1, none⟩) (hu.keep _ _ h.tn (by simp))).trans (h.fz 1); have G2 := hide g2; have G3 := hide g3; clear g2 g3)
    | (go_simp; go_at_call 117; refine (dealMake_any a n cap ws _ (unhide HN) (by omega) (by exact hw.below (Below.refl _ _).drew)).mono ?_; rintro e w1 ⟨g, rfl, hb1, hown1⟩; have hbA : Below w.heap.size w w1 := (Below.refl _ _).drew.trans hb1; have hR1 := h.below hbA; have c1' := hR1.c1; have hnb1 := World.block_lt_of_cell? w1 _ c1'))
  all_goals
    have hgw : w.heap.size ≤ g ∧ g < w1.heap.size := by
      have := hown1.lt g rfl
      exact this
    have hgn : L.own g = none := by
      cases ho : L.own g with
      | none => rfl
      | some u => have := h.lt g u ho; omega
    have hgk : g ≠ k := by
      intro e
      subst e
      rcases unhide G3 with g3 | g3
      · have := h.td _ g3; simp only at this; rw [hgn] at this; cases this
      · simp at g3; omega
    have hgrow := unhide G2
    have hd3 : w3.ownsRow 0 74 3 (.slice (some ⟨g, 0, none⟩) n n) n (wrCells ws) := by
      refine ownsRow_mono (World.ownsRow.kept (World.ownsRow.alloc hown1 _) hgrow ?_) (Nat.zero_le _)
      right
      intro e
      simp only [Value.ownBlock] at e
      split at e
      · rename_i a0 _ _ he
        injection he with he
        have := h.td _ he
        injection e with e
        rw [← e, hgn] at this
        cases this
      · cases e
    rw [unhide HD] at g1
    have hL := h.dealt ws hu g1 hd3 hgn hgw.1 hgk (by have := hgrow.size; simp at this; omega)
    rw [← unhide HD] at hL
    generalize w3.setCell ⟨L.nb, 1, none⟩ (.slice (some ⟨k, 0, none⟩) (L.dv.n + 1) cap') = w4 at *
    clear hd3 hgrow g1 hu c13 fz3 hown1 hR1 c1' c1 hw hb1 hbA G2 G3
    obtain ⟨L1, e1, e2, hR, hE⟩ := hL
    have c1 := hR.c1
    rw [e2] at c1
    have HD1 := hide (by have := hR.od.len; rw [slCells_length] at this; simp [St.deal'] at this; rw [unhide HD]; omega : L1.dv.n = L.dv.n + 1)
    rw [unhide HD1] at c1
    have HL := hide (show Leaves L w (s.deal' ws) w4 from ⟨L1, e1, e2, hR, hE⟩)
    clear e1 e2 hR hE
    go_wp2
    go_ret
    exact ⟨by rw [← unhide HD]; rfl, unhide HL⟩

set_option maxRecDepth 100000 in
set_option maxHeartbeats 1000000 in
theorem nodesBegin_any {w : World} {L : Lay} {s : St} (h : Rep w L s) (hf : Wf s) (hs : Sm s) (t : Nat) (ht : 1 ≤ t) (ht' : t ≤ s.deals.length) :
    Calls Tryz.prog 81 #[.pointer (some ⟨L.nb, 0, none⟩), .int .i64 t] w (Acts L w 0 (s.does 0 (s.all t 1 1))) := by
  go_enter Tryz.func81, Tryz.ntmps81
  go_wp2_with fail
  refine (nodesProclaim_any h hf hs t 1 1 ht ht').mono ?_
  intro e w1 ha
  rcases ha.cases with ⟨hr, rfl, hl⟩ | ⟨hr, rfl, hl⟩
  · go_wp2
    go_end0
    exact ha
  · exact ⟨rfl, ha⟩
end Go.Proofs.YtekbjlhbjcikdaaGreat
