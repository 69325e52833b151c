/-
  A run with four lists of records beside it (and a fifth, the log that was just told): for accordkeep.Written.
-/
import Derived.Test.YtekbjlhbjcikdaaGreatK16
import Derived.Test.YtekbjlhbjcikdaaGreatK17
namespace Go.Proofs.YtekbjlhbjcikdaaGreat
open Go.RowKit Acc Go.MuLone

def setAt {α : Type} (f : Nat → α) (n : Nat) (x : α) : Nat → α := fun m => if m = n then x else f m
theorem setAt_same {α : Type} (f : Nat → α) (n : Nat) (x : α) : setAt f n x n = x := by simp [setAt]
theorem setAt_ne {α : Type} (f : Nat → α) {n m : Nat} (x : α) (h : m ≠ n) : setAt f n x m = f m := by simp [setAt, h]

structure Aside (w0 : Nat) (own : Nat → Option Unit) (bw : Nat) (V : Nat → Sl) (old : Nat → List (Nat × Nat)) (wr : World) : Prop where
  free : own bw = none ∧ w0 ≤ bw ∧ bw < wr.heap.size
  cell : ∀ n, n < 4 → wr.cell? ⟨bw, n, none⟩ = some (.slice (V n).a (V n).n (V n).cap)
  warm : ∀ k, wr.frozen? ⟨bw, k, none⟩ = false
  owns : ∀ n, n < 5 → Owns wr 43 2 (V n) (recCells (old n))
  away : ∀ n, n < 5 → ∀ x, (V n).a = some x → own x.block = none ∧ w0 ≤ x.block ∧ x.block ≠ bw

theorem Aside.frame {w0 : Nat} {own own2 : Nat → Option Unit} {bw : Nat} {V : Nat → Sl} {old : Nat → List (Nat × Nat)} {wr w2 : World} (h : Aside w0 own bw V old wr) (hs : wr.heap.size ≤ w2.heap.size)
    (hk : ∀ b, own b = none → b < wr.heap.size → w2.heap[b]? = wr.heap[b]? ∧ own2 b = none) : Aside w0 own2 bw V old w2 where
  free := ⟨(hk bw h.free.1 h.free.2.2).2, h.free.2.1, Nat.lt_of_lt_of_le h.free.2.2 hs⟩
  cell := fun n hn => (World.cell?_of_block (hk bw h.free.1 h.free.2.2).1).trans (h.cell n hn)
  warm := fun k => (World.frozen?_of_block (hk bw h.free.1 h.free.2.2).1).trans (h.warm k)
  owns := fun n hn => (h.owns n hn).frame fun x hx => (hk _ (h.away n hn x hx).1 ((h.owns n hn).lt x hx)).1
  away := fun n hn x hx => ⟨(hk _ (h.away n hn x hx).1 ((h.owns n hn).lt x hx)).2, (h.away n hn x hx).2⟩

def Kw (w : World) (rb wb bw : Nat) (wr : World) (s : St) (V : Nat → Sl) (old : Nat → List (Nat × Nat)) : Prop :=
  ∃ L K, K.rb = rb ∧ L.wb = wb ∧ Kp wr L K s ∧ Ext (fun _ => none) w (ownK L K) wr ∧ Aside w.heap.size (ownK L K) bw V old wr
theorem Kw.kt {w wr : World} {rb wb bw : Nat} {s : St} {V : Nat → Sl} {old : Nat → List (Nat × Nat)} (h : Kw w rb wb bw wr s V old) : Kt (fun _ => none) w rb wb wr s := by
  obtain ⟨L, K, a, b, c, d, _⟩ := h
  exact ⟨L, K, a, b, c, d⟩
theorem Kw.use {w wr : World} {rb wb bw : Nat} {s : St} {V : Nat → Sl} {old : Nat → List (Nat × Nat)} (h : Kw w rb wb bw wr s V old) :
    ∃ o, Kt o wr rb wb wr s ∧ ∀ w2 s', Kt o wr rb wb w2 s' → Kw w rb wb bw w2 s' V old := by
  obtain ⟨L, K, rfl, rfl, hp, hE, hA⟩ := h
  refine ⟨ownK L K, hp.refl, ?_⟩
  rintro w2 s' ⟨L', K', e1, e2, hp', hE'⟩
  exact ⟨L', K', e1, e2, hp', hE.trans hE', hA.frame hE'.size fun b hb hl => hE'.keep b hl hb⟩
theorem Kw.below {w wr w2 : World} {rb wb bw : Nat} {s : St} {V : Nat → Sl} {old : Nat → List (Nat × Nat)} (h : Kw w rb wb bw wr s V old) (hb : Below wr.heap.size wr w2) : Kw w rb wb bw w2 s V old := by
  obtain ⟨L, K, a, b, c, d, hA⟩ := h
  exact ⟨L, K, a, b, c.below hb, d.trans (Ext.of_below hb), hA.frame hb.size fun b hn hl => ⟨hb.block b hl, hn⟩⟩
theorem Kw.begin {w wr : World} {rb wb : Nat} {s : St} {t : TypeId} (h : Kt (fun _ => none) w rb wb wr s) : Kw w rb wb wr.heap.size (wr.alloc (.cells #[.slice none 0 0, .slice none 0 0, .slice none 0 0, .slice none 0 0] t)) s (fun _ => ⟨none, 0, 0⟩) (fun _ => []) := by
  obtain ⟨L, K, a, b, c, d⟩ := h
  have hb := below_alloc wr (.cells #[.slice none 0 0, .slice none 0 0, .slice none 0 0, .slice none 0 0] t)
  have hfree : ownK L K wr.heap.size = none := by
    refine ownK_none.2 ⟨c.rep.own2_free (Nat.le_refl _), ?_⟩
    cases hh : K.own wr.heap.size with
    | none => rfl
    | some u => have := c.run.lt _ _ hh; omega
  refine ⟨L, K, a, b, c.below hb, d.trans (Ext.of_below hb), ⟨hfree, d.size, by simp⟩, ?_, ?_, fun n _ => ⟨rfl, .inl ⟨rfl, rfl⟩⟩, fun n _ x hx => by cases hx⟩
  · intro n hn
    rw [World.cell?_alloc_at _ t wr.heap.size n rfl]
    have : n = 0 ∨ n = 1 ∨ n = 2 ∨ n = 3 := by omega
    rcases this with rfl | rfl | rfl | rfl <;> rfl
  · intro k
    simp
theorem Kw.use2 {w wr w2 : World} {rb wb bw : Nat} {s : St} {V : Nat → Sl} {old : Nat → List (Nat × Nat)} (h : Kw w rb wb bw wr s V old) (hb : Below wr.heap.size wr w2) :
    ∃ o, Kt o w2 rb wb w2 s ∧ (∀ b, wr.heap.size ≤ b → o b = none) ∧ ∀ w3 s', Kt o w2 rb wb w3 s' → Kw w rb wb bw w3 s' V old := by
  obtain ⟨L, K, rfl, rfl, hp0, hE0, hA0⟩ := h
  have hp := hp0.below hb
  have hE := hE0.trans (Ext.of_below (o := ownK L K) hb)
  have hA : Aside w.heap.size (ownK L K) bw V old w2 := hA0.frame hb.size fun b hn hl => ⟨hb.block b hl, hn⟩
  refine ⟨ownK L K, hp.refl, ?_, ?_⟩
  · intro b hb
    refine ownK_none.2 ⟨hp0.rep.own2_free hb, ?_⟩
    cases hh : K.own b with
    | none => rfl
    | some u => have := hp0.run.lt _ _ hh; omega
  · rintro w3 s' ⟨L', K', e1, e2, hp', hE'⟩
    exact ⟨L', K', e1, e2, hp', hE.trans hE', hA.frame hE'.size fun b hb hl => hE'.keep b hl hb⟩
/-- The log that is told lies beside it. -/
theorem log_kw {w wr : World} {rb wb bw : Nat} {s : St} {V : Nat → Sl} {old : Nat → List (Nat × Nat)} (h : Kw w rb wb bw wr s V old) (i : Int) :
    Calls Tryz.prog 18 #[.pointer (some ⟨wb, 0, none⟩), .int .i64 i] wr fun e w' => ∃ a cap, e = .returned (.tuple #[.slice a (s.logP i).1.length cap, .int .i64 ((s.logP i).2 : Nat)]) ∧
      Kw w rb wb bw w' s (setAt V 4 ⟨a, (s.logP i).1.length, cap⟩) (setAt old 4 (s.logP i).1) := by
  obtain ⟨L, K, rfl, rfl, hp, hE, hA⟩ := h
  refine (log_kt hp.refl i).mono ?_
  rintro e w' ⟨a, cap, rfl, _, hrow, L', K', e1, e2, hp', hE', hn'⟩
  have hA' := hA.frame hE'.size fun b hb hl => hE'.keep b hl hb
  refine ⟨a, cap, rfl, L', K', e1, e2, hp', hE.trans hE', hA'.free, fun n hn => ?_, hA'.warm, fun n hn => ?_, fun n hn x hx => ?_⟩
  · rw [setAt_ne _ _ (by omega)]; exact hA'.cell n hn
  · by_cases q : n = 4
    · subst q; rw [setAt_same, setAt_same]; exact Owns.of_row (ownsRow_mono hrow (Nat.zero_le _))
    · rw [setAt_ne _ _ q, setAt_ne _ _ q]; exact hA'.owns n hn
  · by_cases q : n = 4
    · subst q; rw [setAt_same] at hx
      simp only at hx
      have := (hrow.lt x.block (by rw [hx]; rfl)).1
      have h1 := hE.size
      have h2 := hA.free.2.2
      exact ⟨hn' _ this, by omega, by omega⟩
    · rw [setAt_ne _ _ q] at hx; exact hA'.away n hn x hx
/-- One of the four is another list, that lies where nothing lay. -/
theorem Kw.store {w wr w3 : World} {rb wb bw : Nat} {s : St} {V : Nat → Sl} {old : Nat → List (Nat × Nat)} (h : Kw w rb wb bw wr s V old) (hb : Below wr.heap.size wr w3) (n : Nat) (hn : n < 4) (a : Option Addr) (m cap : Nat) (l : List (Nat × Nat))
    (hrow : w3.ownsRow wr.heap.size 43 2 (.slice a m cap) m (recCells l)) : Kw w rb wb bw (w3.setCell ⟨bw, n, none⟩ (.slice a m cap)) s (setAt V n ⟨a, m, cap⟩) (setAt old n l) := by
  have hlt : ∀ x, a = some x → wr.heap.size ≤ x.block := fun x hx => (hrow.lt x.block (by rw [hx]; rfl)).1
  obtain ⟨L, K, e1, e2, hp0, hE0, hA0⟩ := h
  have hbw := hA0.free.2.2
  have hp := hp0.below hb
  have hE := hE0.trans (Ext.of_below (o := ownK L K) hb)
  have hA : Aside w.heap.size (ownK L K) bw V old w3 := hA0.frame hb.size fun b hn hl => ⟨hb.block b hl, hn⟩
  have hbk : ∀ b, b ≠ bw → (w3.setCell ⟨bw, n, none⟩ (.slice a m cap)).heap[b]? = w3.heap[b]? := fun b hb => block_setCell hb
  have hsz : (w3.setCell ⟨bw, n, none⟩ (.slice a m cap)).heap.size = w3.heap.size := by simp [World.setCell]
  have hown : ∀ b, ownK L K b ≠ none → b ≠ bw := by
    intro b hb e
    rw [e] at hb
    exact hb hA.free.1
  have hfree : ∀ b, wr.heap.size ≤ b → ownK L K b = none := by
    intro b hb
    refine ownK_none.2 ⟨hp0.rep.own2_free hb, ?_⟩
    cases hh : K.own b with
    | none => rfl
    | some u => have := hp0.run.lt _ _ hh; omega
  have hs : w3.heap.size ≤ (w3.setCell ⟨bw, n, none⟩ (.slice a m cap)).heap.size := by omega
  have hle := hE0.size
  refine ⟨L, K, e1, e2, ⟨hp.rep.frame hs fun b u hb => hbk b (hown b ?_), hp.run.frame hs fun b u hb => hbk b (hown b ?_), hp.ap, hp.ok, hp.p3⟩, ⟨hE.os, hE.tape, hE.output, Nat.le_trans hE.size hs, ?_⟩, ⟨hA.free.1, hA.free.2.1, by rw [hsz]; exact hA.free.2.2⟩, ?_, ?_, ?_, ?_⟩
  · intro e; rw [(ownK_none.1 e).1] at hb; cases hb
  · intro e; rw [(ownK_none.1 e).2] at hb; cases hb
  · intro b hb hn
    obtain ⟨k1, k2⟩ := hE.keep b hb hn
    have := hA.free.2.1
    exact ⟨(hbk b (by omega)).trans k1, k2⟩
  · intro j hj
    by_cases q : j = n
    · subst q; rw [setAt_same]; exact World.cell?_setCell_same _ _ _ (hA.cell j hj)
    · rw [setAt_ne _ _ q]
      exact (World.cell?_setCell_other _ _ _ _ (by intro e; injection e with _ e; exact q e.symm)).trans (hA.cell j hj)
  · intro k; simpa using hA.warm k
  · intro j hj
    by_cases q : j = n
    · subst q; rw [setAt_same, setAt_same]
      refine (Owns.of_row (ownsRow_mono hrow (Nat.zero_le _))).frame fun x hx => hbk _ ?_
      have := hlt x hx
      omega
    · rw [setAt_ne _ _ q, setAt_ne _ _ q]
      exact (hA.owns j hj).frame fun x hx => hbk _ (hA.away j hj x hx).2.2
  · intro j hj x hx
    by_cases q : j = n
    · subst q; rw [setAt_same] at hx
      have := hlt x hx
      exact ⟨hfree _ this, by omega, by omega⟩
    · rw [setAt_ne _ _ q] at hx
      exact hA.away j hj x hx
/-- One of the lists, as the walk reads it. -/
theorem Kw.at {w wr : World} {rb wb bw : Nat} {s : St} {V : Nat → Sl} {old : Nat → List (Nat × Nat)} (h : Kw w rb wb bw wr s V old) (n : Nat) (hn : n < 4) :
    wr.cell? ⟨bw, n, none⟩ = some (.slice (V n).a (old n).length (V n).cap) ∧ Owns wr 43 2 ⟨(V n).a, (old n).length, (V n).cap⟩ (recCells (old n)) := by
  obtain ⟨L, K, _, _, _, _, hA⟩ := h
  have ho := hA.owns n (by omega)
  have hl := ho.len
  rw [recCells_length] at hl
  have e : (V n).n = (old n).length := by omega
  refine ⟨by rw [← e]; exact hA.cell n hn, ?_⟩
  rw [← e]; exact ho
theorem Kw.told {w wr : World} {rb wb bw : Nat} {s : St} {V : Nat → Sl} {old : Nat → List (Nat × Nat)} {a : Option Addr} {c : Nat} {l : List (Nat × Nat)} (h : Kw w rb wb bw wr s (setAt V 4 ⟨a, l.length, c⟩) (setAt old 4 l)) :
    Owns wr 43 2 ⟨a, l.length, c⟩ (recCells l) := by
  obtain ⟨L, K, _, _, _, _, hA⟩ := h
  have ho := hA.owns 4 (by omega)
  rw [setAt_same, setAt_same] at ho
  exact ho
theorem Kw.warm {w wr : World} {rb wb bw : Nat} {s : St} {V : Nat → Sl} {old : Nat → List (Nat × Nat)} (h : Kw w rb wb bw wr s V old) (k : Nat) : wr.frozen? ⟨bw, k, none⟩ = false ∧ bw < wr.heap.size := by
  obtain ⟨L, K, _, _, _, _, hA⟩ := h
  exact ⟨hA.warm k, hA.free.2.2⟩
theorem rec_news {w : World} {g n cap : Nat} {l : List (Nat × Nat)} (h : Owns w 43 2 ⟨some ⟨g, 0, none⟩, n, cap⟩ (recCells l)) (hn : 0 < n) : ∀ j u, (recCells l)[j]? = some u → w.cell? ((⟨g, 0, none⟩ : Addr).add j) = some u := by
  intro j u hu
  obtain ⟨g', e, _, _, hc⟩ := h.at hn
  simp only [Option.some.injEq, Addr.mk.injEq, and_true] at e
  subst e
  have hadd : (⟨g, 0, none⟩ : Addr).add j = ⟨g, j, none⟩ := by unfold Addr.add; split <;> simp_all
  rw [hadd]; exact hc j u hu
theorem rec_cells {w : World} {g n cap : Nat} {l : List (Nat × Nat)} (h : Owns w 43 2 ⟨some ⟨g, 0, none⟩, n, cap⟩ (recCells l)) (k : Nat) (x : Nat × Nat) (hx : l[k]? = some x) :
    n ≤ cap ∧ w.cell? ⟨g, k * 2, none⟩ = some (.int .i64 (x.1 : Int)) ∧ w.cell? ⟨g, k * 2 + 1, none⟩ = some (.int .i64 (x.2 : Int)) := by
  have hl := h.len
  rw [recCells_length] at hl
  simp only at hl
  have hk : k < l.length := (List.getElem?_eq_some_iff.1 hx).1
  obtain ⟨g', e, hcap, _, hc⟩ := h.at (by simp; omega)
  simp only [Option.some.injEq, Addr.mk.injEq, and_true] at e
  subst e
  obtain ⟨c0, c1⟩ := recCells_get l k x hx
  rw [show 2 * k = k * 2 from by omega] at c0 c1
  exact ⟨hcap, hc _ _ c0, hc _ _ c1⟩
theorem rec_some {w : World} {a : Option Addr} {n cap : Nat} {l : List (Nat × Nat)} (h : Owns w 43 2 ⟨a, n, cap⟩ (recCells l)) (hn : 0 < n) : ∃ g, a = some ⟨g, 0, none⟩ := by
  obtain ⟨g, e, _⟩ := h.at hn
  exact ⟨g, e⟩
end Go.Proofs.YtekbjlhbjcikdaaGreat
