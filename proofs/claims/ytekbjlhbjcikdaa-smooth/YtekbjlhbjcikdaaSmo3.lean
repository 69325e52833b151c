/-
  The plain part of Smooth, third part: one message comes.
-/
import Derived.Test.YtekbjlhbjcikdaaSmo2
namespace Acc

def Of (t m p : Nat) (x : Msg) : Prop := (p = 0 ∧ x = ⟨1, 0, m, t⟩) ∨ (p = 1 ∧ x = ⟨2, m, 0, t⟩) ∨ (p = 3 ∧ x = ⟨4, 0, m, t⟩)

theorem Of.who {t m p m' p' : Nat} {x : Msg} (h : Of t m p x) (h' : Of t m' p' x) : m = m' ∧ p = p' := by
  rcases h with ⟨rfl, rfl⟩ | ⟨rfl, rfl⟩ | ⟨rfl, rfl⟩ <;> rcases h' with ⟨rfl, e⟩ | ⟨rfl, e⟩ | ⟨rfl, e⟩ <;> simp at e <;> simp [e]
theorem Of.fn {t m p : Nat} {x y : Msg} (h : Of t m p x) (h' : Of t m p y) : x = y := by
  rcases h with ⟨rfl, rfl⟩ | ⟨rfl, rfl⟩ | ⟨rfl, rfl⟩ <;> rcases h' with ⟨e, rfl⟩ | ⟨e, rfl⟩ | ⟨e, rfl⟩ <;> first | rfl | simp at e

variable {s0 s : St} {ws : List Wr} {c : Bool} {ph : Nat → Nat}

theorem Run.erased (h : Run s0 s ws c ph) (i : Nat) (xi : Msg) (hi : s.fly[i]? = some xi) (m : Nat) (hm : m ∈ members ws) (ho : Of (s0.deals.length + 1) m (ph m) xi) (x : Msg) :
    x ∈ s.fly.eraseIdx i ↔ ∃ m2, m2 ∈ members ws ∧ m2 ≠ m ∧ Of (s0.deals.length + 1) m2 (ph m2) x := by
  rw [mem_eraseIdx_nodup _ h.dup, hi, h.mem x]
  constructor
  · rintro ⟨⟨m2, h2, ho2⟩, hne⟩
    refine ⟨m2, h2, ?_, ho2⟩
    intro e
    subst e
    exact hne (by rw [Of.fn ho ho2])
  · rintro ⟨m2, h2, hne, ho2⟩
    refine ⟨⟨m2, h2, ho2⟩, ?_⟩
    intro e
    injection e with e
    subst e
    exact hne (Of.who ho2 ho).1
theorem expect_upd (t : Nat) (M : List Nat) (ph : Nat → Nat) (m v : Nat) (hm : m ∈ M) (x : Msg) :
    Expect t M (upd ph m v) x ↔ Of t m v x ∨ ∃ m2, m2 ∈ M ∧ m2 ≠ m ∧ Of t m2 (ph m2) x := by
  constructor
  · rintro ⟨m2, h2, ho⟩
    by_cases e : m2 = m
    · subst e; left; simpa [upd, Of] using ho
    · right; exact ⟨m2, h2, e, by simpa [upd, e, Of] using ho⟩
  · rintro (ho | ⟨m2, h2, e, ho⟩)
    · exact ⟨m, hm, by simpa [upd, Of] using ho⟩
    · exact ⟨m2, h2, by simpa [upd, e, Of] using ho⟩

theorem clashes_none (s : St) (m : Nat) (h : ∀ t, s.state m t ≠ 2) (t : Nat) : s.clashes m t = false :=
  clashTo_zero s m t (fun k => holdFrom_none s m k (fun t' => by simp [St.holds, h t']) _ _) 4

theorem recs_st (t : Nat) : stOf (recs t 0) t = 0 ∧ stOf (recs t 1) t = 2 ∧ stOf (recs t 2) t = 2 ∧ stOf (recs t 3) t = 2 ∧ stOf (recs t 4) t = 3 := by
  simp [recs, stOf]

theorem len_erase {l : List Msg} {i : Nat} {x : Msg} (h : l[i]? = some x) : (l.eraseIdx i).length + 1 = l.length := by
  have := (List.getElem?_eq_some_iff.1 h).1
  rw [List.length_eraseIdx_of_lt this]; omega

/-- A member is asked, and votes yes. -/
theorem run_prepare (h : Run s0 s ws c ph) (q : Quiet s0) (i m : Nat) (hm : m ∈ members ws) (hp : ph m = 0) (hi : s.fly[i]? = some ⟨1, 0, m, s0.deals.length + 1⟩) :
    Run s0 (s.deliver i) ws c (upd ph m 1) := by
  have h1 : 1 ≤ m := ((membersTo_mem ws 5 m).1 hm).1
  have hst : ∀ t, ({ s with fly := s.fly.eraseIdx i } : St).state m t ≠ 2 := by
    intro t
    show s.state m t ≠ 2
    by_cases e : t = s0.deals.length + 1
    · subst e; rw [h.stMem q m h1 hm, hp]; simp [recs, stOf]
    · rw [h.stOther m t e]; exact q.st m t
  have hs0 : ({ s with fly := s.fly.eraseIdx i } : St).state m (s0.deals.length + 1) = 0 := by
    show s.state m _ = 0
    rw [h.stMem q m h1 hm, hp]; rfl
  have hlen := len_erase hi
  have hl5 : (members ws).length ≤ 5 := membersTo_length ws 5
  have hle := h.len
  have hd : s.deliver i = (({ s with fly := s.fly.eraseIdx i } : St).write m (s0.deals.length + 1) 2).send ⟨2, m, 0, s0.deals.length + 1⟩ := by
    simp only [St.deliver, hi, St.receive, St.prepare, hs0, if_true, St.vote, clashes_none _ m hst]
    rfl
  have hfl : (s.deliver i).fly = s.fly.eraseIdx i ++ [⟨2, m, 0, s0.deals.length + 1⟩] := by
    rw [hd]; simp only [St.send, St.write]; rw [if_pos (by omega)]
  have hc : c = false := by
    cases c with
    | false => rfl
    | true => have := h.co rfl m hm; omega
  have ho : Of (s0.deals.length + 1) m (ph m) ⟨1, 0, m, s0.deals.length + 1⟩ := .inl ⟨hp, rfl⟩
  refine ⟨by rw [hd]; exact h.parts, by rw [hd]; exact h.deals, ?_, ?_, ?_, ?_, ?_, ?_, ?_, ?_, ?_⟩
  · intro n hn
    rw [hd]
    simp only [St.send, St.write]
    by_cases e : n = m
    · subst e
      rw [if_pos rfl, h.lg n hn, if_pos hm, if_pos hm, hp]
      simp [recs, upd]
    · rw [if_neg e, h.lg n hn]
      simp [upd, e]
  · rw [hd]
    simp only [St.send, St.write]
    rw [if_neg (by omega), h.l0]
  · intro m2 h2
    rw [hd]
    show s.noted _ m2 = _
    rw [h.nd m2 h2]
    by_cases e : m2 = m
    · subst e; simp [upd, hp]
    · simp [upd, e]
  · intro t m2 ht; rw [hd]; exact h.nt t m2 ht
  · intro _
    obtain ⟨hv, _⟩ := h.vo hc
    refine ⟨fun m2 h2 => ?_, m, hm, by simp [upd]⟩
    by_cases e : m2 = m
    · subst e; simp [upd]
    · simp [upd, e]; exact hv m2 h2
  · intro e; rw [hc] at e; cases e
  · intro x
    rw [hfl, List.mem_append, h.erased i _ hi m hm ho x, expect_upd _ _ _ _ _ hm]
    constructor
    · rintro (hx | hx)
      · exact .inr hx
      · left; simp at hx; exact .inr (.inl ⟨rfl, hx⟩)
    · rintro (hx | hx)
      · right
        rcases hx with ⟨e, _⟩ | ⟨_, e⟩ | ⟨e, _⟩
        · cases e
        · simp [e]
        · cases e
      · exact .inl hx
  · rw [hfl]
    refine nodup_snoc _ _ (nodup_eraseIdx _ h.dup i) ?_
    rw [h.erased i _ hi m hm ho]
    rintro ⟨m2, h2, hne, ho2⟩
    exact hne (Of.who ho2 (.inr (.inl ⟨rfl, rfl⟩) : Of (s0.deals.length + 1) m 1 ⟨2, m, 0, s0.deals.length + 1⟩)).1
  · rw [hfl]; simp; omega

/-- A member learns that it is done. -/
theorem run_commit (h : Run s0 s ws c ph) (q : Quiet s0) (i m : Nat) (hm : m ∈ members ws) (hp : ph m = 3) (hi : s.fly[i]? = some ⟨4, 0, m, s0.deals.length + 1⟩) :
    Run s0 (s.deliver i) ws c (upd ph m 4) := by
  have h1 : 1 ≤ m := ((membersTo_mem ws 5 m).1 hm).1
  have hs0 : ({ s with fly := s.fly.eraseIdx i } : St).state m (s0.deals.length + 1) = 2 := by
    show s.state m _ = 2
    rw [h.stMem q m h1 hm, hp]; exact (recs_st _).2.2.2.1
  have hlen := len_erase hi
  have hle := h.len
  have hd : s.deliver i = (({ s with fly := s.fly.eraseIdx i } : St).write m (s0.deals.length + 1) 3) := by
    simp only [St.deliver, hi, St.receive, St.commit, hs0, if_true]
  have hfl : (s.deliver i).fly = s.fly.eraseIdx i := by rw [hd]; rfl
  have hc : c = true := by
    cases c with
    | true => rfl
    | false => have := (h.vo rfl).1 m hm; omega
  have ho : Of (s0.deals.length + 1) m (ph m) ⟨4, 0, m, s0.deals.length + 1⟩ := .inr (.inr ⟨hp, rfl⟩)
  refine ⟨by rw [hd]; exact h.parts, by rw [hd]; exact h.deals, ?_, ?_, ?_, ?_, ?_, ?_, ?_, ?_, ?_⟩
  · intro n hn
    rw [hd]
    simp only [St.write]
    by_cases e : n = m
    · subst e
      rw [if_pos rfl, h.lg n hn, if_pos hm, if_pos hm, hp]
      simp [recs, upd]
    · rw [if_neg e, h.lg n hn]
      simp [upd, e]
  · rw [hd]
    simp only [St.write]
    rw [if_neg (by omega), h.l0]
  · intro m2 h2
    rw [hd]
    show s.noted _ m2 = _
    rw [h.nd m2 h2]
    by_cases e : m2 = m
    · subst e; simp [upd, hp]
    · simp [upd, e]
  · intro t m2 ht; rw [hd]; exact h.nt t m2 ht
  · intro e; rw [hc] at e; cases e
  · intro _ m2 h2
    by_cases e : m2 = m
    · subst e; simp [upd]
    · simp [upd, e]; exact h.co hc m2 h2
  · intro x
    rw [hfl, h.erased i _ hi m hm ho x, expect_upd _ _ _ _ _ hm]
    constructor
    · intro hx; exact .inr hx
    · rintro (hx | hx)
      · rcases hx with ⟨e, _⟩ | ⟨e, _⟩ | ⟨e, _⟩ <;> cases e
      · exact hx
  · rw [hfl]; exact nodup_eraseIdx _ h.dup i
  · rw [hfl]; omega

/-- The coordinator notes a vote; with the last one it commits. -/
theorem run_yes (h : Run s0 s ws c ph) (q : Quiet s0) (i m : Nat) (hm : m ∈ members ws) (hp : ph m = 1) (hi : s.fly[i]? = some ⟨2, m, 0, s0.deals.length + 1⟩) :
    Run s0 (s.deliver i) ws c (upd ph m 2) ∨ Run s0 (s.deliver i) ws true (fun _ => 3) := by
  have h1 : 1 ≤ m := ((membersTo_mem ws 5 m).1 hm).1
  have hc : c = false := by
    cases c with
    | false => rfl
    | true => have := h.co rfl m hm; omega
  subst hc
  have hs0 : ({ s with fly := s.fly.eraseIdx i } : St).state 0 (s0.deals.length + 1) = 1 := by
    show s.state 0 _ = 1
    rw [h.st0 q]; rfl
  have hlen := len_erase hi
  have hl5 : (members ws).length ≤ 5 := membersTo_length ws 5
  have hle := h.len
  obtain ⟨hv, _⟩ := h.vo rfl
  have ho : Of (s0.deals.length + 1) m (ph m) ⟨2, m, 0, s0.deals.length + 1⟩ := .inr (.inl ⟨hp, rfl⟩)
  have hdl : (({ s with fly := s.fly.eraseIdx i } : St).note (s0.deals.length + 1) m).deal (s0.deals.length + 1) = ws := by
    have e := deal_last h
    exact e
  have hnote : ∀ m2, m2 ∈ members ws → (({ s with fly := s.fly.eraseIdx i } : St).note (s0.deals.length + 1) m).noted (s0.deals.length + 1) m2 = decide (2 ≤ upd ph m 2 m2) := by
    intro m2 h2
    simp only [St.note]
    by_cases e : m2 = m
    · subst e; simp [upd]
    · rw [if_neg (fun hh => e hh.2)]
      show s.noted _ m2 = _
      rw [h.nd m2 h2]; simp [upd, e]
  have hnt : ∀ t m2, s0.deals.length + 1 < t → (({ s with fly := s.fly.eraseIdx i } : St).note (s0.deals.length + 1) m).noted t m2 = false := by
    intro t m2 ht
    simp only [St.note]
    rw [if_neg (by omega)]
    exact h.nt t m2 ht
  cases ha : (({ s with fly := s.fly.eraseIdx i } : St).note (s0.deals.length + 1) m).allNoted (s0.deals.length + 1) with
  | false =>
    left
    have hd : s.deliver i = ({ s with fly := s.fly.eraseIdx i } : St).note (s0.deals.length + 1) m := by
      simp only [St.deliver, hi, St.receive, St.yes, hs0, if_true, ha]
      rfl
    have hfl : (s.deliver i).fly = s.fly.eraseIdx i := by rw [hd]; rfl
    refine ⟨by rw [hd]; exact h.parts, by rw [hd]; exact h.deals, ?_, ?_, ?_, ?_, ?_, ?_, ?_, ?_, ?_⟩
    · intro n hn
      rw [hd]
      show s.log n = _
      rw [h.lg n hn]
      by_cases e : n = m
      · subst e; rw [if_pos hm, if_pos hm, hp]; simp [upd, recs]
      · simp [upd, e]
    · rw [hd]; exact h.l0
    · intro m2 h2; rw [hd]; exact hnote m2 h2
    · intro t m2 ht; rw [hd]; exact hnt t m2 ht
    · intro _
      refine ⟨fun m2 h2 => ?_, ?_⟩
      · by_cases e : m2 = m
        · subst e; simp [upd]
        · simp [upd, e]; exact hv m2 h2
      · unfold St.allNoted at ha
        rw [hdl] at ha
        have hna : ¬ ∀ m2, m2 ∈ members ws → (({ s with fly := s.fly.eraseIdx i } : St).note (s0.deals.length + 1) m).noted (s0.deals.length + 1) m2 = true := by
          intro hall
          rw [(allNotedOf_iff _ _ _).2 hall] at ha
          cases ha
        refine Classical.byContradiction fun hno => hna (fun m2 h2 => ?_)
        rw [hnote m2 h2]
        simp only [decide_eq_true_eq]
        refine Nat.le_of_not_lt fun hlt => hno ⟨m2, h2, hlt⟩
    · intro e; cases e
    · intro x
      rw [hfl, h.erased i _ hi m hm ho x, expect_upd _ _ _ _ _ hm]
      constructor
      · intro hx; exact .inr hx
      · rintro (hx | hx)
        · rcases hx with ⟨e, _⟩ | ⟨e, _⟩ | ⟨e, _⟩ <;> cases e
        · exact hx
    · rw [hfl]; exact nodup_eraseIdx _ h.dup i
    · rw [hfl]; omega
  | true =>
    right
    have hall : ∀ m2, m2 ∈ members ws → m2 ≠ m → ph m2 = 2 := by
      intro m2 h2 hne
      have ha2 := ha
      unfold St.allNoted at ha2
      rw [hdl] at ha2
      have := (allNotedOf_iff _ _ _).1 ha2 m2 h2
      rw [hnote m2 h2] at this
      simp [upd, hne] at this
      have := hv m2 h2
      omega
    have hemp : s.fly.eraseIdx i = [] := by
      apply List.eq_nil_iff_forall_not_mem.2
      intro x hx
      rw [h.erased i _ hi m hm ho x] at hx
      obtain ⟨m2, h2, hne, ho2⟩ := hx
      rw [hall m2 h2 hne] at ho2
      rcases ho2 with ⟨e, _⟩ | ⟨e, _⟩ | ⟨e, _⟩ <;> cases e
    have hd : s.deliver i = ((({ s with fly := s.fly.eraseIdx i } : St).note (s0.deals.length + 1) m).write 0 (s0.deals.length + 1) 3).tellTo 4 (s0.deals.length + 1) (members ws) := by
      simp only [St.deliver, hi, St.receive, St.yes, hs0, if_true, ha]
      unfold St.tell
      rw [show ((({ s with fly := s.fly.eraseIdx i } : St).note (s0.deals.length + 1) m).write 0 (s0.deals.length + 1) 3).deal (s0.deals.length + 1) = ws from hdl]
    have hlen2 : ((({ s with fly := s.fly.eraseIdx i } : St).note (s0.deals.length + 1) m).write 0 (s0.deals.length + 1) 3).fly.length + (members ws).length ≤ 60 := by
      show (s.fly.eraseIdx i).length + _ ≤ 60
      rw [hemp]; simp; omega
    obtain ⟨t1, t2, t3, t4, t5⟩ := tellTo_fly _ 4 (s0.deals.length + 1) (members ws) hlen2
    rw [← hd] at t1 t2 t3 t4 t5
    have hfl : (s.deliver i).fly = (members ws).map (fun m => (⟨4, 0, m, s0.deals.length + 1⟩ : Msg)) := by
      rw [t1]
      show s.fly.eraseIdx i ++ _ = _
      rw [hemp]; rfl
    refine ⟨by rw [t5]; exact h.parts, by rw [t3]; exact h.deals, ?_, ?_, ?_, ?_, ?_, ?_, ?_, ?_, ?_⟩
    · intro n hn
      rw [t2]
      simp only [St.write, St.note]
      rw [if_neg (by omega), h.lg n hn]
      by_cases hn2 : n ∈ members ws
      · rw [if_pos hn2, if_pos hn2]
        by_cases e : n = m
        · subst e; rw [hp]; rfl
        · rw [hall n hn2 e]; rfl
      · rw [if_neg hn2, if_neg hn2]
    · rw [t2]
      simp only [St.write, St.note, if_true]
      rw [h.l0]; simp
    · intro m2 h2
      rw [t4]
      show (({ s with fly := s.fly.eraseIdx i } : St).note (s0.deals.length + 1) m).noted _ m2 = _
      rw [hnote m2 h2]
      by_cases e : m2 = m
      · subst e; simp [upd]
      · simp [upd, e, hall m2 h2 e]
    · intro t m2 ht; rw [t4]; exact hnt t m2 ht
    · intro e; cases e
    · intro _ m2 h2; exact .inl rfl
    · intro x
      rw [hfl, List.mem_map]
      constructor
      · rintro ⟨m2, h2, rfl⟩; exact ⟨m2, h2, .inr (.inr ⟨rfl, rfl⟩)⟩
      · rintro ⟨m2, h2, ⟨e, _⟩ | ⟨e, _⟩ | ⟨_, rfl⟩⟩
        · cases e
        · cases e
        · exact ⟨m2, h2, rfl⟩
    · rw [hfl]
      have := (membersTo_nodup ws 5).1
      exact List.Pairwise.map _ (fun a b hab e => hab (by injection e)) this
    · rw [hfl]; simp

/-- One message comes: the run goes on, and has come nearer to its end. -/
theorem run_step (h : Run s0 s ws c ph) (q : Quiet s0) (i : Nat) (hi : i < s.fly.length) :
    ∃ c' ph', Run s0 (s.deliver i) ws c' ph' ∧ ((members ws).map ph).sum < ((members ws).map ph').sum := by
  have hx : s.fly[i]? = some s.fly[i] := List.getElem?_eq_getElem _
  obtain ⟨m, hm, hh⟩ := (h.mem s.fly[i]).1 (List.getElem_mem hi)
  rcases hh with ⟨hp, e⟩ | ⟨hp, e⟩ | ⟨hp, e⟩
  · rw [e] at hx
    refine ⟨c, _, run_prepare h q i m hm hp hx, sum_lt _ _ _ (fun x _ => ?_) m hm ?_⟩
    · unfold upd; split
      · rename_i e; rw [e, hp]; omega
      · exact Nat.le_refl _
    · simp [upd, hp]
  · rw [e] at hx
    rcases run_yes h q i m hm hp hx with hr | hr
    · refine ⟨c, _, hr, sum_lt _ _ _ (fun x _ => ?_) m hm ?_⟩
      · unfold upd; split
        · rename_i e; rw [e, hp]; omega
        · exact Nat.le_refl _
      · simp [upd, hp]
    · refine ⟨true, _, hr, sum_lt _ _ _ (fun x hxm => ?_) m hm ?_⟩
      · cases c with
        | false => have := (h.vo rfl).1 x hxm; omega
        | true => have := h.co rfl m hm; omega
      · omega
  · rw [e] at hx
    refine ⟨c, _, run_commit h q i m hm hp hx, sum_lt _ _ _ (fun x _ => ?_) m hm ?_⟩
    · unfold upd; split
      · rename_i e; rw [e, hp]; omega
      · exact Nat.le_refl _
    · simp [upd, hp]

end Acc
