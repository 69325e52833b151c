/-
  The blocks that the program's world lies in are read off the memory: what a call that does something leaves alone.
-/
import Derived.Test.YtekbjlhbjcikdaaGreatMI3
namespace Go.Proofs.YtekbjlhbjcikdaaGreat
open Go.RowKit Acc

/-- The block of a slice. -/
def SlAt (v : Sl) (b : Nat) : Prop := ∃ a, v.a = some a ∧ a.block = b
/-- The blocks that the world lies in. -/
def Foot (L : Lay) (s : St) (b : Nat) : Prop :=
  b = L.wb ∨ b = L.nb ∨ b = L.ab ∨ (∃ i, i ≤ s.parts ∧ SlAt (L.lv i) b) ∨ SlAt L.dv b ∨ (∃ t, t < s.deals.length ∧ SlAt (L.dl t) b) ∨ SlAt L.fv b

theorem Rep.dn {w : World} {L : Lay} {s : St} (h : Rep w L s) : L.dv.n = s.deals.length := by
  have := h.od.len
  rw [slCells_length] at this
  omega

theorem Foot.same {w : World} {L L' : Lay} {s s' : St} (h : RepW w L s) (h' : RepW w L' s') (hw : L'.wb = L.wb) {b : Nat} (hb : Foot L s b) : Foot L' s' b := by
  have e1 := h.l2
  have e1' := h'.l2
  rw [hw, e1] at e1'
  obtain ⟨hn⟩ : L.nb = L'.nb ∧ True := by simpa using e1'
  have e2 := h.rep.c0
  have e2' := h'.rep.c0
  rw [← hn, e2] at e2'
  obtain ⟨ha, hp⟩ : L.ab = L'.ab ∧ s.parts = s'.parts := by simpa using e2'
  have e3 := h.rep.c1
  have e3' := h'.rep.c1
  rw [← hn, e3] at e3'
  obtain ⟨d1, d2, d3⟩ : L.dv.a = L'.dv.a ∧ L.dv.n = L'.dv.n ∧ L.dv.cap = L'.dv.cap := by simpa using e3'
  have e4 := h.rep.cf
  have e4' := h'.rep.cf
  rw [← hn, e4] at e4'
  obtain ⟨f1, -, -⟩ : L.fv.a = L'.fv.a ∧ L.fv.n = L'.fv.n ∧ L.fv.cap = L'.fv.cap := by simpa using e4'
  have hd : s.deals.length = s'.deals.length := by rw [← h.rep.dn, ← h'.rep.dn, d2]
  rcases hb with e | e | e | ⟨i, hi, hs⟩ | hs | ⟨t, ht, hs⟩ | hs
  · exact .inl (by rw [hw]; exact e)
  · exact .inr (.inl (by rw [← hn]; exact e))
  · exact .inr (.inr (.inl (by rw [← ha]; exact e)))
  · have c := h.rep.ca i hi
    have c' := h'.rep.ca i (by omega)
    rw [← ha, c] at c'
    obtain ⟨g1, -, -⟩ : (L.lv i).a = (L'.lv i).a ∧ (L.lv i).n = (L'.lv i).n ∧ (L.lv i).cap = (L'.lv i).cap := by simpa using c'
    exact .inr (.inr (.inr (.inl ⟨i, by omega, by unfold SlAt; rw [← g1]; exact hs⟩)))
  · exact .inr (.inr (.inr (.inr (.inl (by unfold SlAt; rw [← d1]; exact hs)))))
  · obtain ⟨g, k1, -, -, k2⟩ := h.rep.od.at (by rw [h.rep.dn]; omega)
    obtain ⟨g', k1', -, -, k2'⟩ := h'.rep.od.at (by rw [h'.rep.dn]; omega)
    rw [d1, k1'] at k1
    obtain ⟨hg⟩ : g' = g ∧ True := by simpa using k1
    have c := k2 t _ (slCells_get L.dl s.deals.length t ht)
    have c' := k2' t _ (slCells_get L'.dl s'.deals.length t (by omega))
    rw [hg, c] at c'
    obtain ⟨g1, -, -⟩ : (L.dl t).a = (L'.dl t).a ∧ (L.dl t).n = (L'.dl t).n ∧ (L.dl t).cap = (L'.dl t).cap := by simpa using c'
    exact .inr (.inr (.inr (.inr (.inr (.inl ⟨t, by omega, by unfold SlAt; rw [← g1]; exact hs⟩)))))
  · exact .inr (.inr (.inr (.inr (.inr (.inr (by unfold SlAt; rw [← f1]; exact hs))))))

theorem Owns.cells {w : World} {e size : Nat} {s : Sl} {xs : List Value} (h : Owns w e size s xs) {b : Nat} (hb : SlAt s b) : ∃ c t z, w.heap[b]? = some (.cells c t z) := by
  obtain ⟨a, ha, rfl⟩ := hb
  rcases h.2 with ⟨hv, _⟩ | ⟨g, cap, cur, hv, h0, hg, r⟩
  · injection hv with e1 e2 e3; rw [e1] at ha; cases ha
  · injection hv with e1 e2 e3
    rw [e1] at ha
    injection ha with ha
    subst ha
    exact ⟨_, _, _, hg⟩

/-- What the world lies in are cells. -/
theorem Foot.cells {w : World} {L : Lay} {s : St} (h : RepW w L s) {b : Nat} (hb : Foot L s b) : ∃ c t z, w.heap[b]? = some (.cells c t z) := by
  rcases hb with e | e | e | ⟨i, hi, hs⟩ | hs | ⟨t, ht, hs⟩ | hs
  · subst e; exact cells_of_cell h.l0
  · subst e; exact cells_of_cell h.rep.c0
  · subst e; exact cells_of_cell (h.rep.ca 0 (Nat.zero_le _))
  · exact (h.rep.ol i hi).cells hs
  · exact h.rep.od.cells hs
  · exact (h.rep.ow t ht).cells hs
  · exact h.rep.om.cells hs

/-- What the world lies in it owns. -/
theorem Foot.owned {w : World} {L : Lay} {s : St} (h : RepW w L s) {b : Nat} (hb : Foot L s b) : own2 L b ≠ none := by
  unfold own2
  split
  · simp
  rename_i hne
  rcases hb with e | e | e | ⟨i, hi, a, ha, rfl⟩ | ⟨a, ha, rfl⟩ | ⟨t, ht, a, ha, rfl⟩ | ⟨a, ha, rfl⟩
  · exact absurd e hne
  · subst e; rw [h.rep.tn]; simp
  · subst e; rw [h.rep.ta]; simp
  · rw [h.rep.tl i hi a ha]; simp
  · rw [h.rep.td a ha]; simp
  · rw [h.rep.tw t ht a ha]; simp
  · rw [h.rep.tf a ha]; simp

open Classical in
/-- No more is owned than what it lies in. -/
noncomputable def Lay.cut (L : Lay) (s : St) : Lay := { L with own := fun b => if Foot L s b then L.own b else none }

theorem RepW.cut {w : World} {L : Lay} {s : St} (h : RepW w L s) : RepW w (L.cut s) s ∧ (∀ b, own2 (L.cut s) b ≠ none → Foot L s b) ∧ (∀ b, own2 L b = none → own2 (L.cut s) b = none) := by
  have hp : ∀ b, Foot L s b → (L.cut s).own b = L.own b := fun b hb => if_pos hb
  have hn : ∀ b t, (L.cut s).own b = some t → L.own b = some t := by
    intro b t hb
    by_cases hf : Foot L s b
    · rw [hp b hf] at hb; exact hb
    · rw [show (L.cut s).own b = none from if_neg hf] at hb; cases hb
  refine ⟨⟨{ c0 := h.rep.c0, c1 := h.rep.c1, cn := h.rep.cn, cf := h.rep.cf, fz := h.rep.fz, ca := h.rep.ca, cd := h.rep.cd, cb := h.rep.cb, cu := h.rep.cu, fa := h.rep.fa, ol := h.rep.ol, od := h.rep.od, ow := h.rep.ow, om := h.rep.om, tn := ?_, ta := ?_, tl := ?_, td := ?_, tw := ?_, tf := ?_, lt := ?_ }, h.l0, h.l2, h.lf, ?_⟩, ?_, ?_⟩
  · exact (hp _ (.inr (.inl rfl))).trans h.rep.tn
  · exact (hp _ (.inr (.inr (.inl rfl)))).trans h.rep.ta
  · exact fun i hi a ha => (hp _ (.inr (.inr (.inr (.inl ⟨i, hi, a, ha, rfl⟩))))).trans (h.rep.tl i hi a ha)
  · exact fun a ha => (hp _ (.inr (.inr (.inr (.inr (.inl ⟨a, ha, rfl⟩)))))).trans (h.rep.td a ha)
  · exact fun t ht a ha => (hp _ (.inr (.inr (.inr (.inr (.inr (.inl ⟨t, ht, a, ha, rfl⟩))))))).trans (h.rep.tw t ht a ha)
  · exact fun a ha => (hp _ (.inr (.inr (.inr (.inr (.inr (.inr ⟨a, ha, rfl⟩))))))).trans (h.rep.tf a ha)
  · exact fun b t hb => h.rep.lt b t (hn b t hb)
  · exact (hp _ (.inl rfl)).trans h.fr
  · intro b hb
    unfold own2 at hb
    split at hb
    · rename_i e; exact .inl e
    · by_cases hf : Foot L s b
      · exact hf
      · exact absurd (show (L.cut s).own b = none from if_neg hf) hb
  · intro b hb
    unfold own2 at hb ⊢
    split at hb
    · cases hb
    · rename_i e
      rw [if_neg (show ¬ b = (L.cut s).wb from e)]
      by_cases hf : Foot L s b
      · rw [hp b hf]; exact hb
      · exact if_neg hf

/-- The blocks that a call of the program may touch: all, where no world lies at wb. -/
def Tg (wb : Nat) (W : World) (b : Nat) : Prop := ¬ (∃ L s, L.wb = wb ∧ RepW W L s) ∨ ∃ L s, L.wb = wb ∧ RepW W L s ∧ Foot L s b
theorem Tg.iff {W : World} {L : Lay} {s : St} (h : RepW W L s) {b : Nat} : Tg L.wb W b ↔ Foot L s b := by
  constructor
  · rintro (hn | ⟨L', s', e, h', hf⟩)
    · exact absurd ⟨L, s, rfl, h⟩ hn
    · exact Foot.same h' h e.symm hf
  · exact fun hf => .inr ⟨L, s, rfl, h, hf⟩
theorem Tg.not {wb b : Nat} {W : World} (h : ¬ Tg wb W b) : ∃ L s, L.wb = wb ∧ RepW W L s ∧ ¬ Foot L s b := by
  by_cases hg : ∃ L s, L.wb = wb ∧ RepW W L s
  · obtain ⟨L, s, e, hr⟩ := hg
    exact ⟨L, s, e, hr, fun hf => h (.inr ⟨L, s, e, hr, hf⟩)⟩
  · exact absurd (.inl hg) h

theorem RepW.framed {w w' : World} {L : Lay} {s : St} (h : RepW w L s) (hs : w.heap.size ≤ w'.heap.size) (hb : ∀ b, own2 L b ≠ none → w'.heap[b]? = w.heap[b]?) : RepW w' L s := by
  have hw := hb L.wb (by simp [own2])
  refine ⟨h.rep.frame hs fun b t ht => hb b ?_, (World.cell?_of_block (a := ⟨L.wb, 0, none⟩) hw).trans h.l0, (World.cell?_of_block (a := ⟨L.wb, 2, none⟩) hw).trans h.l2, (World.frozen?_of_block (a := ⟨L.wb, 0, none⟩) hw).trans h.lf, h.fr⟩
  unfold own2
  split
  · simp
  · rw [ht]; simp

/-- What leaves all cells as they lie leaves the world as it lies. -/
theorem Tg.turn {wb : Nat} {W W' : World} (hs : W.heap.size ≤ W'.heap.size) (hc : ∀ (b : Nat) (c : Array Value) (t : TypeId) (z : Nat × Nat), W.heap[b]? = some (Obj.cells c t z) → W'.heap[b]? = W.heap[b]?) {b : Nat} (h : ¬ Tg wb W b) : ¬ Tg wb W' b := by
  obtain ⟨L, s, rfl, hr, hf⟩ := Tg.not h
  obtain ⟨h1, h2, h3⟩ := hr.cut
  have h4 : RepW W' (L.cut s) s := h1.framed hs fun b hb => by
    obtain ⟨c, t, z, e⟩ := Foot.cells hr (h2 b hb)
    exact hc b c t z e
  rw [show L.wb = (L.cut s).wb from rfl, Tg.iff h4]
  exact hf

/-- A call that does something keeps what the rounds have to keep. -/
theorem LeavesW.kept {n₀ : Nat} {W W' : World} {L : Lay} {s s' : St} (h : RepW W L s) (hc : ∀ b, own2 L b ≠ none → Foot L s b) (hl : LeavesW L W s' W') : Kept n₀ (Tg L.wb) W W' := by
  obtain ⟨L', e1, -, hr', hE⟩ := hl
  refine ⟨hE.size, fun b c t z _ hb hT => ?_⟩
  rw [Tg.iff h] at hT
  have hlt := (Array.getElem?_eq_some_iff.1 hb).1
  obtain ⟨k1, k2⟩ := hE.keep b hlt (by by_cases ho : own2 L b = none; exact ho; exact absurd (hc b ho) hT)
  refine ⟨k1, ?_⟩
  rw [← e1, Tg.iff hr']
  exact fun hf => hf.owned hr' k2

theorem LeavesW.others {B : Nat} {W W' : World} {L : Lay} {s s' : St} (h : RepW W L s) (hc : ∀ b, own2 L b ≠ none → Foot L s b) (hl : LeavesW L W s' W') : KeepsFrom B W W' := by
  obtain ⟨L', e1, -, hr', hE⟩ := hl
  refine ⟨hE.size, fun b o _ hb ho => ?_⟩
  have hlt := (Array.getElem?_eq_some_iff.1 hb).1
  refine (hE.keep b hlt ?_).1.trans hb
  by_cases hn : own2 L b = none
  · exact hn
  · obtain ⟨c, t, z, e⟩ := (hc b hn).cells h
    rw [e] at hb
    cases hb
    cases ho
end Go.Proofs.YtekbjlhbjcikdaaGreat
