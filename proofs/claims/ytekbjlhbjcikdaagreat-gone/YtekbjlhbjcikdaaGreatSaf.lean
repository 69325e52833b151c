/-
  The plain part of ALL OR NONE: what holds of a world at any time, whatever is lost and doubled, and whoever crashes in the middle of anything.
-/
import Derived.Test.YtekbjlhbjcikdaaGreatPure
namespace Acc

/-- What a log says of a transaction: its states, one behind the other. -/
def hist (l : List (Nat × Nat)) (t : Nat) : List Nat := (l.filter fun x => x.1 == t).map (·.2)
def St.h (s : St) (n t : Nat) : List Nat := hist (s.log n) t

theorem hist_snoc (l : List (Nat × Nat)) (t' st t : Nat) : hist (l ++ [(t', st)]) t = if t' = t then hist l t ++ [st] else hist l t := by
  unfold hist
  rw [List.filter_append, List.map_append]
  by_cases e : t' = t
  · subst e; simp
  · simp [e]
theorem stOf_hist (l : List (Nat × Nat)) (t : Nat) : stOf l t = (hist l t).getLastD 0 := by
  suffices H : ∀ (l : List (Nat × Nat)) (d : Nat), l.foldl (fun s x => if x.1 = t then x.2 else s) d = (hist l t).getLastD d from H l 0
  intro l
  induction l with
  | nil => intro d; rfl
  | cons x r ih =>
    intro d
    simp only [List.foldl_cons]
    rw [ih]
    unfold hist
    by_cases e : x.1 = t
    · rw [if_pos e, List.filter_cons_of_pos (by simpa using e), List.map_cons, List.getLastD_cons]
    · rw [if_neg e, List.filter_cons_of_neg (by simpa using e)]
theorem mem_hist (l : List (Nat × Nat)) (t st : Nat) : st ∈ hist l t ↔ (t, st) ∈ l := by
  unfold hist
  simp only [List.mem_map, List.mem_filter, beq_iff_eq]
  constructor
  · rintro ⟨⟨a, b⟩, ⟨h1, h2⟩, h3⟩
    simp at h2 h3; subst h2 h3; exact h1
  · intro h; exact ⟨(t, st), ⟨h, rfl⟩, rfl⟩

/-- How a node's records of a transaction may follow one another. -/
def Law (n : Nat) (h : List Nat) : Prop :=
  if n = 0 then h = [] ∨ h = [1] ∨ h = [1, 3] ∨ h = [1, 4] else h = [] ∨ h = [2] ∨ h = [2, 3] ∨ h = [2, 4] ∨ h = [4]
/-- It has been prepared. -/
def Prep (h : List Nat) : Prop := h = [2] ∨ h = [2, 3] ∨ h = [2, 4]
def St.mem (s : St) (t n : Nat) : Prop := n ∈ members (s.deal t)
/-- The transaction can't be committed any more. -/
def St.dead (s : St) (t : Nat) : Prop := s.h 0 t = [1, 4] ∨ ∃ m, s.mem t m ∧ s.h m t = [4]

/-- What is true of a message that is flying. -/
def MsgOk (s : St) (m : Msg) : Prop :=
  s.h 0 m.trans ≠ [] ∧
  ((m.kind = 1 ∧ m.frm = 0 ∧ s.mem m.trans m.to) ∨
   (m.kind = 2 ∧ m.to = 0 ∧ s.mem m.trans m.frm ∧ Prep (s.h m.frm m.trans)) ∨
   (m.kind = 3 ∧ m.to = 0 ∧ s.mem m.trans m.frm ∧ s.dead m.trans) ∨
   (m.kind = 4 ∧ s.mem m.trans m.to ∧ (m.frm = 0 ∨ s.mem m.trans m.frm) ∧ s.h 0 m.trans = [1, 3]) ∨
   (m.kind = 5 ∧ s.mem m.trans m.to ∧ (m.frm = 0 ∨ s.mem m.trans m.frm) ∧ s.dead m.trans) ∨
   (m.kind = 6 ∧ s.mem m.trans m.frm ∧ (m.to = 0 ∨ s.mem m.trans m.to)))

structure Inv (s : St) : Prop where
  p1 : 1 ≤ s.parts
  p5 : s.parts ≤ 5
  d12 : s.deals.length ≤ 12
  dl : ∀ ws, ws ∈ s.deals → 1 ≤ ws.length ∧ ws.length ≤ 6
  dp : ∀ ws, ws ∈ s.deals → ∀ x, x ∈ ws → 1 ≤ x.part ∧ x.part ≤ s.parts
  fl : s.fly.length ≤ 60
  fb : ∀ n k, s.fuse n = some k → k < 9223372036854775808
  law : ∀ n t, Law n (s.h n t)
  rng : ∀ t, s.h 0 t ≠ [] → 1 ≤ t ∧ t ≤ s.deals.length
  nmb : ∀ n t, 1 ≤ n → s.h n t ≠ [] → s.mem t n ∧ s.h 0 t ≠ []
  msg : ∀ m, m ∈ s.fly → MsgOk s m
  ntd : ∀ t m, s.noted t m = true → Prep (s.h m t)
  com : ∀ n t, 1 ≤ n → s.h n t = [2, 3] → s.h 0 t = [1, 3]
  abt : ∀ n t, 1 ≤ n → s.h n t = [2, 4] → s.dead t
  cmt : ∀ t, s.h 0 t = [1, 3] → ∀ m, s.mem t m → s.h m t = [2] ∨ s.h m t = [2, 3]
  exc : ∀ p t t' k, 1 ≤ p → s.h p t = [2] → s.h p t' = [2] → (findW (s.deal t) p k).isSome = true → (findW (s.deal t') p k).isSome = true → t = t'

theorem membersTo_mem (ws : List Wr) (n x : Nat) : x ∈ membersTo ws n ↔ 1 ≤ x ∧ x ≤ n ∧ hasPart ws x = true := by
  induction n with
  | zero => simp [membersTo]; omega
  | succ n ih =>
    simp only [membersTo, List.mem_append, ih]
    constructor
    · rintro (h | h)
      · exact ⟨h.1, by omega, h.2.2⟩
      · split at h
        · rename_i hh
          simp at h
          subst h
          exact ⟨by omega, by omega, by exact_mod_cast hh⟩
        · simp at h
    · rintro ⟨h1, h2, h3⟩
      by_cases e : x = n + 1
      · right
        subst e
        rw [if_pos (by exact_mod_cast h3)]; simp
      · left; exact ⟨h1, by omega, h3⟩
theorem St.mem_pos {s : St} {t n : Nat} (h : s.mem t n) : 1 ≤ n := ((membersTo_mem _ _ _).1 h).1
theorem hasPart_ex (ws : List Wr) (p : Int) : hasPart ws p = true → ∃ x, x ∈ ws ∧ x.part = p := by
  induction ws with
  | nil => intro h; simp [hasPart] at h
  | cons x r ih =>
    intro h
    simp only [hasPart, Bool.or_eq_true, decide_eq_true_eq] at h
    rcases h with h | h
    · exact ⟨x, by simp, h⟩
    · obtain ⟨y, hy, e⟩ := ih h; exact ⟨y, by simp [hy], e⟩
theorem St.deal_mem {s : St} {t : Nat} {ws : List Wr} (h : s.deals[t - 1]? = some ws) : ws ∈ s.deals := List.mem_of_getElem? h
theorem Inv.mem_le {s : St} (h : Inv s) {t n : Nat} (hm : s.mem t n) : n ≤ s.parts := by
  obtain ⟨h1, _, h3⟩ := (membersTo_mem _ _ _).1 hm
  obtain ⟨x, hx, e⟩ := hasPart_ex _ _ h3
  unfold St.deal at hx
  rw [List.getD_eq_getElem?_getD] at hx
  cases hd : s.deals[t - 1]? with
  | none => rw [hd] at hx; simp at hx
  | some ws =>
    rw [hd] at hx
    have := (h.dp ws (St.deal_mem hd) x hx).2
    omega

theorem Inv.st {s : St} (_ : Inv s) (n t : Nat) : s.state n t = (s.h n t).getLastD 0 := stOf_hist _ _
theorem Inv.h0 {s : St} (h : Inv s) {n t : Nat} : s.state n t = 0 ↔ s.h n t = [] := by
  rw [h.st]
  have := h.law n t
  unfold Law at this
  constructor
  · intro e
    split at this
    · rcases this with q | q | q | q <;> simp_all
    · rcases this with q | q | q | q | q <;> simp_all
  · intro e; rw [e]; rfl
theorem Inv.h1 {s : St} (h : Inv s) {n t : Nat} : s.state n t = 1 ↔ n = 0 ∧ s.h n t = [1] := by
  rw [h.st]
  have := h.law n t
  unfold Law at this
  constructor
  · intro e
    split at this
    · rcases this with q | q | q | q <;> simp_all
    · rcases this with q | q | q | q | q <;> simp_all
  · rintro ⟨_, e⟩; rw [e]; rfl
theorem Inv.h2 {s : St} (h : Inv s) {n t : Nat} : s.state n t = 2 ↔ s.h n t = [2] := by
  rw [h.st]
  have := h.law n t
  unfold Law at this
  constructor
  · intro e
    split at this
    · rcases this with q | q | q | q <;> simp_all
    · rcases this with q | q | q | q | q <;> simp_all
  · intro e; rw [e]; rfl
theorem Inv.h3 {s : St} (h : Inv s) {n t : Nat} : s.state n t = 3 ↔ (n = 0 ∧ s.h n t = [1, 3]) ∨ (n ≠ 0 ∧ s.h n t = [2, 3]) := by
  rw [h.st]
  have := h.law n t
  unfold Law at this
  constructor
  · intro e
    split at this
    · rcases this with q | q | q | q <;> simp_all
    · rcases this with q | q | q | q | q <;> simp_all
  · rintro (⟨_, e⟩ | ⟨_, e⟩) <;> rw [e] <;> rfl
theorem Inv.h4 {s : St} (h : Inv s) {n t : Nat} : s.state n t = 4 ↔ (n = 0 ∧ s.h n t = [1, 4]) ∨ (n ≠ 0 ∧ (s.h n t = [2, 4] ∨ s.h n t = [4])) := by
  rw [h.st]
  have := h.law n t
  unfold Law at this
  constructor
  · intro e
    split at this
    · rcases this with q | q | q | q <;> simp_all
    · rcases this with q | q | q | q | q <;> simp_all
  · rintro (⟨_, e⟩ | ⟨_, e | e⟩) <;> rw [e] <;> rfl
/-- Committed at the coordinator: it is not dead. -/
theorem Inv.live {s : St} (h : Inv s) {t : Nat} (hc : s.h 0 t = [1, 3]) : ¬ s.dead t := by
  rintro (hd | ⟨m, hm, hd⟩)
  · rw [hc] at hd; simp at hd
  · rcases h.cmt t hc m hm with q | q <;> rw [q] at hd <;> simp at hd

/-- A record that may be written. -/
def WrOk (s : St) (n t st : Nat) : Prop :=
  (n = 0 ∧ st = 1 ∧ s.h 0 t = [] ∧ 1 ≤ t ∧ t ≤ s.deals.length) ∨
  (n = 0 ∧ st = 3 ∧ s.h 0 t = [1] ∧ ∀ m, s.mem t m → Prep (s.h m t)) ∨
  (n = 0 ∧ st = 4 ∧ s.h 0 t = [1]) ∨
  (s.mem t n ∧ st = 2 ∧ s.h n t = [] ∧ s.h 0 t ≠ [] ∧ ∀ t' k, s.h n t' = [2] → (findW (s.deal t) n k).isSome = true → (findW (s.deal t') n k).isSome = true → False) ∨
  (s.mem t n ∧ st = 4 ∧ s.h n t = [] ∧ s.h 0 t ≠ []) ∨
  (s.mem t n ∧ st = 3 ∧ s.h n t = [2] ∧ s.h 0 t = [1, 3]) ∨
  (s.mem t n ∧ st = 4 ∧ s.h n t = [2] ∧ s.dead t)

theorem h_write (s : St) (n t st n' t' : Nat) : (s.write n t st).h n' t' = if n' = n ∧ t = t' then s.h n t ++ [st] else s.h n' t' := by
  unfold St.h St.write
  simp only
  by_cases e : n' = n
  · subst e
    rw [if_pos rfl, hist_snoc]
    by_cases e2 : t = t'
    · subst e2; simp
    · simp [e2]
  · rw [if_neg e, if_neg (fun h => e h.1)]
theorem mem_write (s : St) (n t st t' n' : Nat) : (s.write n t st).mem t' n' ↔ s.mem t' n' := Iff.rfl

theorem WrOk.h0_keep {s : St} {n t st : Nat} (_ : Inv s) (h : WrOk s n t st) {t' : Nat} {x : List Nat} (hx : x = [1, 3] ∨ x = [1, 4]) (hh : s.h 0 t' = x) : (s.write n t st).h 0 t' = x := by
  rw [h_write]
  split
  · rename_i e
    obtain ⟨e1, e2⟩ := e
    subst e2
    rcases h with q | q | q | q | q | q | q
    · rw [q.2.2.1] at hh; rcases hx with rfl | rfl <;> simp at hh
    · rw [q.2.2.1] at hh; rcases hx with rfl | rfl <;> simp at hh
    · rw [q.2.2] at hh; rcases hx with rfl | rfl <;> simp at hh
    all_goals
      have := St.mem_pos q.1
      omega
  · exact hh
theorem WrOk.h4_keep {s : St} {n t st : Nat} (h : WrOk s n t st) {m t' : Nat} (hh : s.h m t' = [4]) : (s.write n t st).h m t' = [4] := by
  rw [h_write]
  split
  · rename_i e
    obtain ⟨e1, e2⟩ := e
    subst e1 e2
    rcases h with q | q | q | q | q | q | q
    · rw [q.1, q.2.2.1] at hh; simp at hh
    · rw [q.1, q.2.2.1] at hh; simp at hh
    · rw [q.1, q.2.2] at hh; simp at hh
    · rw [q.2.2.1] at hh; simp at hh
    · rw [q.2.2.1] at hh; simp at hh
    · rw [q.2.2.1] at hh; simp at hh
    · rw [q.2.2.1] at hh; simp at hh
  · exact hh
theorem WrOk.ne_keep {s : St} {n t st : Nat} {m t' : Nat} (hh : s.h m t' ≠ []) : (s.write n t st).h m t' ≠ [] := by
  rw [h_write]
  split
  · simp
  · exact hh
theorem WrOk.dead_keep {s : St} {n t st : Nat} (hi : Inv s) (h : WrOk s n t st) {t' : Nat} (hd : s.dead t') : (s.write n t st).dead t' := by
  rcases hd with hd | ⟨m, hm, hd⟩
  · exact .inl (h.h0_keep hi (.inr rfl) hd)
  · exact .inr ⟨m, hm, h.h4_keep hd⟩
theorem WrOk.prep_keep {s : St} {n t st : Nat} (h : WrOk s n t st) {m t' : Nat} (hh : Prep (s.h m t')) : Prep ((s.write n t st).h m t') := by
  rw [h_write]
  split
  · rename_i e
    obtain ⟨e1, e2⟩ := e
    subst e1 e2
    unfold Prep at hh ⊢
    rcases h with q | q | q | q | q | q | q
    · rw [q.1, q.2.2.1] at hh; simp at hh
    · rw [q.1, q.2.2.1] at hh; simp at hh
    · rw [q.1, q.2.2] at hh; simp at hh
    · rw [q.2.2.1] at hh; simp at hh
    · rw [q.2.2.1] at hh; simp at hh
    · rw [q.2.2.1, q.2.1]; simp
    · rw [q.2.2.1, q.2.1]; simp
  · exact hh
theorem WrOk.msg_keep {s : St} {n t st : Nat} (hi : Inv s) (h : WrOk s n t st) {m : Msg} (hm : MsgOk s m) : MsgOk (s.write n t st) m := by
  obtain ⟨a, b⟩ := hm
  refine ⟨WrOk.ne_keep a, ?_⟩
  rcases b with b | b | b | b | b | b
  · exact .inl b
  · exact .inr (.inl ⟨b.1, b.2.1, b.2.2.1, h.prep_keep b.2.2.2⟩)
  · exact .inr (.inr (.inl ⟨b.1, b.2.1, b.2.2.1, h.dead_keep hi b.2.2.2⟩))
  · exact .inr (.inr (.inr (.inl ⟨b.1, b.2.1, b.2.2.1, h.h0_keep hi (.inl rfl) b.2.2.2⟩)))
  · exact .inr (.inr (.inr (.inr (.inl ⟨b.1, b.2.1, b.2.2.1, h.dead_keep hi b.2.2.2⟩))))
  · exact .inr (.inr (.inr (.inr (.inr b))))

theorem Inv.write {s : St} {n t st : Nat} (hi : Inv s) (h : WrOk s n t st) : Inv (s.write n t st) where
  p1 := hi.p1
  p5 := hi.p5
  d12 := hi.d12
  dl := hi.dl
  dp := hi.dp
  fl := hi.fl
  fb := hi.fb
  law := fun n' t' => by
    rw [h_write]
    split
    · rename_i e
      obtain ⟨rfl, rfl⟩ := e
      unfold Law
      rcases h with q | q | q | q | q | q | q
      · rw [q.1, if_pos rfl, q.2.1, q.2.2.1]; simp
      · rw [q.1, if_pos rfl, q.2.1, q.2.2.1]; simp
      · rw [q.1, if_pos rfl, q.2.1, q.2.2]; simp
      all_goals
        have := St.mem_pos q.1
        rw [if_neg (by omega), q.2.1, q.2.2.1]; simp
    · exact hi.law n' t'
  rng := fun t' hh => by
    rw [h_write] at hh
    split at hh
    · rename_i e
      obtain ⟨e1, e2⟩ := e
      subst e2
      rcases h with q | q | q | q | q | q | q
      · exact q.2.2.2
      · exact hi.rng t (by rw [q.2.2.1]; simp)
      · exact hi.rng t (by rw [q.2.2]; simp)
      all_goals
        have := St.mem_pos q.1
        omega
    · exact hi.rng t' hh
  nmb := fun n' t' h1 hh => by
    rw [h_write] at hh
    split at hh
    · rename_i e
      obtain ⟨e1, e2⟩ := e
      subst e1 e2
      rcases h with q | q | q | q | q | q | q
      · omega
      · omega
      · omega
      · exact ⟨q.1, WrOk.ne_keep q.2.2.2.1⟩
      · exact ⟨q.1, WrOk.ne_keep q.2.2.2⟩
      · exact ⟨q.1, WrOk.ne_keep (by rw [q.2.2.2]; simp)⟩
      · exact ⟨q.1, WrOk.ne_keep (hi.nmb n' t h1 (by rw [q.2.2.1]; simp)).2⟩
    · exact ⟨(hi.nmb n' t' h1 hh).1, WrOk.ne_keep (hi.nmb n' t' h1 hh).2⟩
  msg := fun m hm => h.msg_keep hi (hi.msg m hm)
  ntd := fun t' m hm => h.prep_keep (hi.ntd t' m hm)
  com := fun n' t' h1 hh => by
    rw [h_write] at hh
    split at hh
    · rename_i e
      obtain ⟨e1, e2⟩ := e
      subst e1 e2
      rcases h with q | q | q | q | q | q | q
      · omega
      · omega
      · omega
      · rw [q.2.1, q.2.2.1] at hh; simp at hh
      · rw [q.2.1, q.2.2.1] at hh; simp at hh
      · exact WrOk.h0_keep hi (.inr (.inr (.inr (.inr (.inr (.inl q)))))) (.inl rfl) q.2.2.2
      · rw [q.2.1, q.2.2.1] at hh; simp at hh
    · exact h.h0_keep hi (.inl rfl) (hi.com n' t' h1 hh)
  abt := fun n' t' h1 hh => by
    rw [h_write] at hh
    split at hh
    · rename_i e
      obtain ⟨e1, e2⟩ := e
      subst e1 e2
      have h' := h
      rcases h with q | q | q | q | q | q | q
      · omega
      · omega
      · omega
      · rw [q.2.1, q.2.2.1] at hh; simp at hh
      · rw [q.2.1, q.2.2.1] at hh; simp at hh
      · rw [q.2.1, q.2.2.1] at hh; simp at hh
      · exact h'.dead_keep hi q.2.2.2
    · exact h.dead_keep hi (hi.abt n' t' h1 hh)
  cmt := fun t' hh m hm => by
    have hm : s.mem t' m := hm
    rw [h_write] at hh
    have hmp := St.mem_pos hm
    split at hh
    · rename_i e
      obtain ⟨e1, e2⟩ := e
      subst e1 e2
      rcases h with q | q | q | q | q | q | q
      · rw [q.2.1, q.2.2.1] at hh; simp at hh
      · rw [h_write, if_neg (by omega)]
        rcases q.2.2.2 m hm with p | p | p
        · exact .inl p
        · exact .inr p
        · exfalso
          rcases hi.abt m t hmp p with d | ⟨m', hm', d⟩
          · rw [q.2.2.1] at d; simp at d
          · have := q.2.2.2 m' hm'
            unfold Prep at this
            rw [d] at this
            simp at this
      · rw [q.2.1, q.2.2] at hh; simp at hh
      all_goals
        have := St.mem_pos q.1
        omega
    · have hc := hi.cmt t' hh m hm
      rw [h_write]
      split
      · rename_i e
        obtain ⟨e1, e2⟩ := e
        subst e1 e2
        rcases h with q | q | q | q | q | q | q
        · omega
        · omega
        · omega
        · rw [q.2.2.1] at hc; simp at hc
        · rw [q.2.2.1] at hc; simp at hc
        · rw [q.2.1, q.2.2.1]; simp
        · exact absurd q.2.2.2 (hi.live hh)
      · exact hc
  exc := fun p t1 t2 k hp e1 e2 f1 f2 => by
    have f1 : (findW (s.deal t1) p k).isSome = true := f1
    have f2 : (findW (s.deal t2) p k).isSome = true := f2
    rw [h_write] at e1 e2
    by_cases c1 : p = n ∧ t = t1
    · by_cases c2 : p = n ∧ t = t2
      · exact c1.2.symm.trans c2.2
      · rw [if_pos c1] at e1
        rw [if_neg c2] at e2
        obtain ⟨rfl, rfl⟩ := c1
        exfalso
        rcases h with q | q | q | q | q | q | q
        · omega
        · omega
        · omega
        · exact q.2.2.2.2 t2 k e2 f1 f2
        · rw [q.2.1, q.2.2.1] at e1; simp at e1
        · rw [q.2.1, q.2.2.1] at e1; simp at e1
        · rw [q.2.1, q.2.2.1] at e1; simp at e1
    · by_cases c2 : p = n ∧ t = t2
      · rw [if_neg c1] at e1
        rw [if_pos c2] at e2
        obtain ⟨rfl, rfl⟩ := c2
        exfalso
        rcases h with q | q | q | q | q | q | q
        · omega
        · omega
        · omega
        · exact q.2.2.2.2 t1 k e1 f2 f1
        · rw [q.2.1, q.2.2.1] at e2; simp at e2
        · rw [q.2.1, q.2.2.1] at e2; simp at e2
        · rw [q.2.1, q.2.2.1] at e2; simp at e2
      · rw [if_neg c1] at e1
        rw [if_neg c2] at e2
        exact hi.exc p t1 t2 k hp e1 e2 f1 f2

end Acc
