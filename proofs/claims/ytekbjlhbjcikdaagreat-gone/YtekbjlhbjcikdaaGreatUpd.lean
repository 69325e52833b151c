/-
  What becomes of the world in memory when a node writes a record, when a message is sent.
-/
import Derived.Test.YtekbjlhbjcikdaaGreatW5
namespace Go.Proofs.YtekbjlhbjcikdaaGreat
open Go.RowKit Acc

theorem tag_ne {τ : Type} {own : Nat → Option τ} {a b : Nat} {t u : τ} (ha : own a = some t) (hb : own b = some u) (h : t ≠ u) : a ≠ b := by
  intro e; subst e; rw [ha] at hb; injection hb with hb; exact h hb

def retag {τ : Type} (own : Nat → Option τ) (k : Nat) (t : τ) : Nat → Option τ := fun b => if b = k then some t else own b

theorem retag_old {τ : Type} {own : Nat → Option τ} {k b : Nat} {t u : τ} (hk : own k = some t ∨ own k = none) (hb : own b = some u) (h : u ≠ t) : retag own k t b = some u := by
  unfold retag
  rw [if_neg ?_]
  · exact hb
  · intro e
    subst e
    rcases hk with hk | hk <;> rw [hk] at hb
    · injection hb with hb; exact h hb.symm
    · cases hb
theorem retag_same {τ : Type} {own : Nat → Option τ} {k b : Nat} {t : τ} (hb : own b = some t) : retag own k t b = some t := by
  unfold retag; split
  · rfl
  · exact hb

/-- From w to w' nothing was turned but what bears the tag t, and what is new; the block k bears the tag or is new. -/
structure Upd {τ : Type} (w w' : World) (own : Nat → Option τ) (t : τ) (k : Nat) : Prop where
  os : w'.os = w.os
  tape : w'.tape = w.tape
  output : w'.output = w.output
  size : w.heap.size ≤ w'.heap.size
  keep : ∀ b u, own b = some u → u ≠ t → w'.heap[b]? = w.heap[b]?
  other : ∀ b, b < w.heap.size → own b = none → w'.heap[b]? = w.heap[b]?
  new : own k = some t ∨ (own k = none ∧ w.heap.size ≤ k)
  klt : k < w'.heap.size

theorem Upd.of_append' {τ : Type} {w W w3 : World} {own : Nat → Option τ} (hown : ∀ b t, own b = some t → b < w.heap.size) {t : τ} {sa : Option Addr} {n cap k e size : Nat} {xs : List Value} {cap' : Nat} (ht : ∀ a, sa = some a → own a.block = some t)
    (hb : Below w.heap.size w W) (g1 : w3.ownsRow 0 e size (.slice (some ⟨k, 0, none⟩) (n + 1) cap') (n + 1) xs) (g2 : W.grownBy w3 (Value.slice sa n cap).ownBlock) (g3 : sa = some ⟨k, 0, none⟩ ∨ W.heap.size ≤ k) :
    Upd w w3 own t k where
  os := g2.os.trans hb.os
  tape := g2.tape.trans hb.tape
  output := g2.output.trans hb.output
  size := Nat.le_trans hb.size g2.size
  keep := fun b u hbu hu => by
    have hlt := hown b u hbu
    rw [g2.block b (Nat.lt_of_lt_of_le hlt hb.size) ?_, hb.block b hlt]
    intro e
    cases sa with
    | none => simp [Value.ownBlock] at e
    | some a =>
      simp only [Value.ownBlock, Option.some.injEq] at e
      subst e
      have := ht a rfl
      rw [hbu] at this
      injection this with this
      exact hu this
  other := fun b hlt hbn => by
    rw [g2.block b (Nat.lt_of_lt_of_le hlt hb.size) ?_, hb.block b hlt]
    intro e
    cases sa with
    | none => simp [Value.ownBlock] at e
    | some a =>
      simp only [Value.ownBlock, Option.some.injEq] at e
      subst e
      have := ht a rfl
      rw [hbn] at this
      cases this
  new := by
    rcases g3 with g3 | g3
    · exact .inl (ht _ g3)
    · refine .inr ⟨?_, Nat.le_trans hb.size g3⟩
      cases hk : own k with
      | none => rfl
      | some u => have := hown k u hk; have := hb.size; omega
  klt := (g1.lt k rfl).2

theorem Upd.of_append {w W w3 : World} {L : Lay} {s : St} (h : Rep w L s) {t : Tag} {sa : Option Addr} {n cap k e size : Nat} {xs : List Value} {cap' : Nat} (ht : ∀ a, sa = some a → L.own a.block = some t)
    (hb : Below w.heap.size w W) (g1 : w3.ownsRow 0 e size (.slice (some ⟨k, 0, none⟩) (n + 1) cap') (n + 1) xs) (g2 : W.grownBy w3 (Value.slice sa n cap).ownBlock) (g3 : sa = some ⟨k, 0, none⟩ ∨ W.heap.size ≤ k) :
    Upd w w3 L.own t k := Upd.of_append' h.lt ht hb g1 g2 g3

theorem Upd.tagged {τ : Type} {w w' : World} {own : Nat → Option τ} {t : τ} {k : Nat} (h : Upd w w' own t k) : own k = some t ∨ own k = none := by
  rcases h.new with h | h
  · exact .inl h
  · exact .inr h.1

/-- What such a turn and a store into a block of the world's do to what is not the world's. -/
theorem Upd.ext {τ : Type} {w w' : World} {own : Nat → Option τ} {t u : τ} {k : Nat} (h : Upd w w' own t k) (a : Addr) (ha : own a.block = some u) (v : Value) : Ext own w (retag own k t) (w'.setCell a v) where
  os := h.os
  tape := h.tape
  output := h.output
  size := by have := h.size; simpa [World.setCell] using this
  keep := fun b hb hn => by
    refine ⟨?_, ?_⟩
    · rw [Below.heap_setCell _ _ _ _ (fun e => by subst e; rw [ha] at hn; cases hn)]
      exact h.other b hb hn
    · unfold retag
      rw [if_neg ?_]
      · exact hn
      · intro e
        subst e
        rcases h.new with h' | h'
        · rw [h'] at hn; cases hn
        · omega

theorem block_setCell {w : World} {a : Addr} {v : Value} {b : Nat} (h : b ≠ a.block) : (w.setCell a v).heap[b]? = w.heap[b]? := Below.heap_setCell _ _ _ _ h

theorem Owns.of_row {w : World} {e size n cap : Nat} {a : Option Addr} {xs : List Value} (h : w.ownsRow 0 e size (.slice a n cap) n xs) : Owns w e size ⟨a, n, cap⟩ xs := h

/-- A node has written a record. -/
theorem Rep.logged {w w3 : World} {L : Lay} {s : St} (h : Rep w L s) (node t st : Nat) (hn : node ≤ s.parts) {k n cap' : Nat} (hu : Upd w w3 L.own (.log node) k)
    (ho : w3.ownsRow 0 43 2 (.slice (some ⟨k, 0, none⟩) n cap') n (recCells (s.log node ++ [(t, st)]))) :
    ∃ L', L'.wb = L.wb ∧ L'.nb = L.nb ∧ Rep (w3.setCell ⟨L.ab, node * 4, none⟩ (.slice (some ⟨k, 0, none⟩) n cap')) L' (s.write node t st) ∧
      Ext L.own w L'.own (w3.setCell ⟨L.ab, node * 4, none⟩ (.slice (some ⟨k, 0, none⟩) n cap')) := by
  have hk := hu.tagged
  have bn : w3.heap[L.nb]? = w.heap[L.nb]? := hu.keep _ _ h.tn (by simp)
  have ba : w3.heap[L.ab]? = w.heap[L.ab]? := hu.keep _ _ h.ta (by simp)
  have nab : L.nb ≠ L.ab := tag_ne h.tn h.ta (by simp)
  have kab : k ≠ L.ab := by
    intro e; rw [e] at hk
    rcases hk with hk | hk <;> rw [h.ta] at hk <;> cases hk
  have cN : ∀ o, (w3.setCell ⟨L.ab, node * 4, none⟩ (.slice (some ⟨k, 0, none⟩) n cap')).cell? ⟨L.nb, o, none⟩ = w.cell? ⟨L.nb, o, none⟩ := fun o => by
    rw [World.cell?_of_block (w := w3) (block_setCell nab)]; exact World.cell?_of_block (a := ⟨L.nb, o, none⟩) bn
  have fN : ∀ o, (w3.setCell ⟨L.ab, node * 4, none⟩ (.slice (some ⟨k, 0, none⟩) n cap')).frozen? ⟨L.nb, o, none⟩ = w.frozen? ⟨L.nb, o, none⟩ := fun o => by
    rw [World.frozen?_of_block (w := w3) (block_setCell nab)]; exact World.frozen?_of_block (a := ⟨L.nb, o, none⟩) bn
  have cA : ∀ o, w3.cell? ⟨L.ab, o, none⟩ = w.cell? ⟨L.ab, o, none⟩ := fun o => World.cell?_of_block (a := ⟨L.ab, o, none⟩) ba
  have fA : ∀ o, w3.frozen? ⟨L.ab, o, none⟩ = w.frozen? ⟨L.ab, o, none⟩ := fun o => World.frozen?_of_block (a := ⟨L.ab, o, none⟩) ba
  have cO : ∀ o, o ≠ node * 4 → (w3.setCell ⟨L.ab, node * 4, none⟩ (.slice (some ⟨k, 0, none⟩) n cap')).cell? ⟨L.ab, o, none⟩ = w.cell? ⟨L.ab, o, none⟩ := fun o ho => by
    rw [World.cell?_setCell_other _ _ _ _ (by intro e'; injection e' with _ e'; exact ho e'.symm)]; exact cA o
  refine ⟨{ L with lv := fun i => if i = node then ⟨some ⟨k, 0, none⟩, n, cap'⟩ else L.lv i, own := retag L.own k (.log node) }, rfl, rfl, ?_, hu.ext ⟨L.ab, node * 4, none⟩ h.ta _⟩
  refine ⟨(cN 0).trans h.c0, (cN 1).trans h.c1, fun t m ht hm => (cN _).trans (h.cn t m ht hm), (cN 80).trans h.cf, fun o => (fN o).trans (h.fz o), ?_, fun i hi => (cO _ (by omega)).trans (h.cd i hi), fun i hi => (cO _ (by omega)).trans (h.cb i hi), fun i hi => (cO _ (by omega)).trans (h.cu i hi), ?_, ?_, ?_, ?_, ?_, retag_old hk h.tn (by simp), retag_old hk h.ta (by simp), ?_, ?_, ?_, ?_, ?_⟩
  · intro i hi
    by_cases e : i = node
    · subst e
      simp only [if_true]
      exact World.cell?_setCell_same _ _ _ ((cA _).trans (h.ca i hi))
    · simp only [if_neg e]
      exact (cO _ (by omega)).trans (h.ca i hi)
  · intro o; simpa using (fA o).trans (h.fa o)
  · intro i hi
    by_cases e : i = node
    · subst e
      simp only [if_true, St.write]
      exact (Owns.of_row ho).frame fun a ha => by simp only [Option.some.injEq] at ha; subst ha; exact block_setCell kab
    · simp only [if_neg e, St.write]
      refine (h.ol i hi).frame fun a ha => ?_
      have htag := h.tl i hi a ha
      rw [block_setCell (tag_ne htag h.ta (by simp))]
      exact hu.keep _ _ htag (by simp [e])
  · refine h.od.frame fun a ha => ?_
    rw [block_setCell (tag_ne (h.td a ha) h.ta (by simp))]
    exact hu.keep _ _ (h.td a ha) (by simp)
  · intro t' ht
    refine (h.ow t' ht).frame fun a ha => ?_
    rw [block_setCell (tag_ne (h.tw t' ht a ha) h.ta (by simp))]
    exact hu.keep _ _ (h.tw t' ht a ha) (by simp)
  · refine h.om.frame fun a ha => ?_
    rw [block_setCell (tag_ne (h.tf a ha) h.ta (by simp))]
    exact hu.keep _ _ (h.tf a ha) (by simp)
  · intro i hi a ha
    by_cases e : i = node
    · subst e
      simp only [if_true, Option.some.injEq] at ha
      subst ha
      simp [retag]
    · simp only [if_neg e] at ha
      exact retag_old hk (h.tl i hi a ha) (by simp [e])
  · exact fun a ha => retag_old hk (h.td a ha) (by simp)
  · exact fun t' ht a ha => retag_old hk (h.tw t' ht a ha) (by simp)
  · exact fun a ha => retag_old hk (h.tf a ha) (by simp)
  · intro b u hb
    have hsz : (w3.setCell ⟨L.ab, node * 4, none⟩ (.slice (some ⟨k, 0, none⟩) n cap')).heap.size = w3.heap.size := by simp [World.setCell]
    rw [hsz]
    simp only [retag] at hb
    split at hb
    · rename_i e; rw [e]; exact hu.klt
    · exact Nat.lt_of_lt_of_le (h.lt b u hb) hu.size

/-- What is flying has another list of messages. -/
theorem Rep.flown {w w3 : World} {L : Lay} {s : St} (h : Rep w L s) (ms : List Msg) {k n cap' : Nat} (hu : Upd w w3 L.own .fly k)
    (ho : w3.ownsRow 0 109 4 (.slice (some ⟨k, 0, none⟩) n cap') n (msgCells ms)) :
    ∃ L', L'.wb = L.wb ∧ L'.nb = L.nb ∧ Rep (w3.setCell ⟨L.nb, 80, none⟩ (.slice (some ⟨k, 0, none⟩) n cap')) L' { s with fly := ms } ∧
      Ext L.own w L'.own (w3.setCell ⟨L.nb, 80, none⟩ (.slice (some ⟨k, 0, none⟩) n cap')) := by
  have hk := hu.tagged
  have bn : w3.heap[L.nb]? = w.heap[L.nb]? := hu.keep _ _ h.tn (by simp)
  have ba : w3.heap[L.ab]? = w.heap[L.ab]? := hu.keep _ _ h.ta (by simp)
  have nab : L.ab ≠ L.nb := tag_ne h.ta h.tn (by simp)
  have knb : k ≠ L.nb := by
    intro e; rw [e] at hk
    rcases hk with hk | hk <;> rw [h.tn] at hk <;> cases hk
  have cN : ∀ o, o ≠ 80 → (w3.setCell ⟨L.nb, 80, none⟩ (.slice (some ⟨k, 0, none⟩) n cap')).cell? ⟨L.nb, o, none⟩ = w.cell? ⟨L.nb, o, none⟩ := fun o ho => by
    rw [World.cell?_setCell_other _ _ _ _ (by intro e'; injection e' with _ e'; exact ho e'.symm)]; exact World.cell?_of_block (a := ⟨L.nb, o, none⟩) bn
  have fN : ∀ o, w3.frozen? ⟨L.nb, o, none⟩ = w.frozen? ⟨L.nb, o, none⟩ := fun o => World.frozen?_of_block (a := ⟨L.nb, o, none⟩) bn
  have cA : ∀ o, (w3.setCell ⟨L.nb, 80, none⟩ (.slice (some ⟨k, 0, none⟩) n cap')).cell? ⟨L.ab, o, none⟩ = w.cell? ⟨L.ab, o, none⟩ := fun o => by
    rw [World.cell?_of_block (w := w3) (block_setCell nab)]; exact World.cell?_of_block (a := ⟨L.ab, o, none⟩) ba
  have fA : ∀ o, (w3.setCell ⟨L.nb, 80, none⟩ (.slice (some ⟨k, 0, none⟩) n cap')).frozen? ⟨L.ab, o, none⟩ = w.frozen? ⟨L.ab, o, none⟩ := fun o => by
    rw [World.frozen?_of_block (w := w3) (block_setCell nab)]; exact World.frozen?_of_block (a := ⟨L.ab, o, none⟩) ba
  refine ⟨{ L with fv := ⟨some ⟨k, 0, none⟩, n, cap'⟩, own := retag L.own k .fly }, rfl, rfl, ?_, hu.ext ⟨L.nb, 80, none⟩ h.tn _⟩
  refine ⟨(cN 0 (by omega)).trans h.c0, (cN 1 (by omega)).trans h.c1, fun t m ht hm => (cN _ (by omega)).trans (h.cn t m ht hm), ?_, ?_, fun i hi => (cA _).trans (h.ca i hi), fun i hi => (cA _).trans (h.cd i hi), fun i hi => (cA _).trans (h.cb i hi), fun i hi => (cA _).trans (h.cu i hi), fun o => (fA o).trans (h.fa o), ?_, ?_, ?_, ?_, retag_old hk h.tn (by simp), retag_old hk h.ta (by simp), ?_, ?_, ?_, ?_, ?_⟩
  · exact World.cell?_setCell_same _ _ _ ((World.cell?_of_block (a := ⟨L.nb, 80, none⟩) bn).trans h.cf)
  · intro o; simpa using (fN o).trans (h.fz o)
  · intro i hi
    refine (h.ol i hi).frame fun a ha => ?_
    rw [block_setCell (tag_ne (h.tl i hi a ha) h.tn (by simp))]
    exact hu.keep _ _ (h.tl i hi a ha) (by simp)
  · refine h.od.frame fun a ha => ?_
    rw [block_setCell (tag_ne (h.td a ha) h.tn (by simp))]
    exact hu.keep _ _ (h.td a ha) (by simp)
  · intro t' ht
    refine (h.ow t' ht).frame fun a ha => ?_
    rw [block_setCell (tag_ne (h.tw t' ht a ha) h.tn (by simp))]
    exact hu.keep _ _ (h.tw t' ht a ha) (by simp)
  · exact (Owns.of_row ho).frame fun a ha => by simp only [Option.some.injEq] at ha; subst ha; exact block_setCell knb
  · exact fun i hi a ha => retag_old hk (h.tl i hi a ha) (by simp)
  · exact fun a ha => retag_old hk (h.td a ha) (by simp)
  · exact fun t' ht a ha => retag_old hk (h.tw t' ht a ha) (by simp)
  · intro a ha
    simp only [Option.some.injEq] at ha
    subst ha
    simp [retag]
  · intro b u hb
    have hsz : (w3.setCell ⟨L.nb, 80, none⟩ (.slice (some ⟨k, 0, none⟩) n cap')).heap.size = w3.heap.size := by simp [World.setCell]
    rw [hsz]
    simp only [retag] at hb
    split at hb
    · rename_i e; rw [e]; exact hu.klt
    · exact Nat.lt_of_lt_of_le (h.lt b u hb) hu.size

/-- Who is up, and the fuses, are others: the cells of the nodes that stand for them have turned, and nothing else. -/
theorem Rep.turned {w w' : World} {L : Lay} {s : St} (h : Rep w L s) (up' : Nat → Bool) (fuse' : Nat → Option Nat) (hs : w'.heap.size = w.heap.size) (hb : ∀ b, b ≠ L.ab → w'.heap[b]? = w.heap[b]?)
    (h0 : ∀ i, i ≤ s.parts → w'.cell? ⟨L.ab, i * 4, none⟩ = w.cell? ⟨L.ab, i * 4, none⟩) (h1 : ∀ i, i ≤ s.parts → w'.cell? ⟨L.ab, i * 4 + 1, none⟩ = some (.bool (!up' i)))
    (h2 : ∀ i, i ≤ s.parts → w'.cell? ⟨L.ab, i * 4 + 2, none⟩ = some (.bool (fuse' i).isSome)) (h3 : ∀ i, i ≤ s.parts → w'.cell? ⟨L.ab, i * 4 + 3, none⟩ = some (.int .i64 ((fuse' i).getD 0 : Nat)))
    (hf : ∀ k, w'.frozen? ⟨L.ab, k, none⟩ = false) : Rep w' L { s with up := up', fuse := fuse' } := by
  have bn := hb L.nb (tag_ne h.tn h.ta (by simp))
  refine ⟨(World.cell?_of_block bn).trans h.c0, (World.cell?_of_block bn).trans h.c1, fun t m ht hm => (World.cell?_of_block bn).trans (h.cn t m ht hm), (World.cell?_of_block bn).trans h.cf, fun k => (World.frozen?_of_block bn).trans (h.fz k),
    fun i hi => (h0 i hi).trans (h.ca i hi), h1, h2, h3, hf, fun i hi => (h.ol i hi).frame fun a ha => hb _ (tag_ne (h.tl i hi a ha) h.ta (by simp)), h.od.frame fun a ha => hb _ (tag_ne (h.td a ha) h.ta (by simp)),
    fun t ht => (h.ow t ht).frame fun a ha => hb _ (tag_ne (h.tw t ht a ha) h.ta (by simp)), h.om.frame fun a ha => hb _ (tag_ne (h.tf a ha) h.ta (by simp)), h.tn, h.ta, h.tl, h.td, h.tw, h.tf, fun b t hbt => by rw [hs]; exact h.lt b t hbt⟩

end Go.Proofs.YtekbjlhbjcikdaaGreat
