/-
  The plain part of Smooth, fourth part: the end of a run.
-/
import Derived.Test.YtekbjlhbjcikdaaSmo3
namespace Acc
variable {s0 s : St} {ws : List Wr} {c : Bool} {ph : Nat → Nat}

theorem run_end (h : Run s0 s ws c ph) (hf : s.fly = []) : c = true ∧ ∀ m, m ∈ members ws → ph m = 4 := by
  have hno : ∀ m x, m ∈ members ws → Of (s0.deals.length + 1) m (ph m) x → False := by
    intro m x hm ho
    have := (h.mem x).2 ⟨m, hm, ho⟩
    rw [hf] at this
    cases this
  cases c with
  | false =>
    obtain ⟨_, m, hm, hlt⟩ := h.vo rfl
    exfalso
    have : ph m = 0 ∨ ph m = 1 := by omega
    rcases this with e | e
    · exact hno m _ hm (.inl ⟨e, rfl⟩)
    · exact hno m _ hm (.inr (.inl ⟨e, rfl⟩))
  | true =>
    refine ⟨rfl, fun m hm => ?_⟩
    rcases h.co rfl m hm with e | e
    · exact (hno m _ hm (.inr (.inr ⟨e, rfl⟩))).elim
    · exact e

theorem recs_len (t p : Nat) : (recs t p).length ≤ 2 := by
  match p with
  | 0 => simp [recs]
  | 1 => simp [recs]
  | 2 => simp [recs]
  | 3 => simp [recs]
  | 4 => simp [recs]
  | n + 5 => simp [recs]

theorem Run.logLen (h : Run s0 s ws c ph) (n : Nat) : (s.log n).length ≤ (s0.log n).length + 2 := by
  by_cases hn : n = 0
  · subst hn; rw [h.l0]; cases c <;> simp
  · rw [h.lg n (by omega), List.length_append]
    split
    · have := recs_len (s0.deals.length + 1) (ph n); omega
    · simp
theorem Run.logTr (h : Run s0 s ws c ph) (q : Quiet s0) (n : Nat) (x : Nat × Nat) (hx : x ∈ s.log n) : 1 ≤ x.1 ∧ x.1 ≤ s0.deals.length + 1 := by
  by_cases hn : n = 0
  · subst hn
    rw [h.l0, List.mem_append] at hx
    rcases hx with hx | hx
    · have := q.lt 0 x hx; omega
    · cases c <;> simp at hx
      · subst hx; simp
      · rcases hx with rfl | rfl <;> simp
  · rw [h.lg n (by omega), List.mem_append] at hx
    rcases hx with hx | hx
    · have := q.lt n x hx; omega
    · split at hx
      · rw [recs_tr _ _ x hx]; omega
      · simp at hx
theorem Run.dlen (h : Run s0 s ws c ph) : s.deals.length = s0.deals.length + 1 := by rw [h.deals]; simp

/-- What is flying is as it may be. -/
theorem Run.flyOk (h : Run s0 s ws c ph) (hp : ∀ m, m ∈ members ws → m ≤ s0.parts) (x : Msg) (hx : x ∈ s.fly) : x.to ≤ s.parts ∧ x.frm ≤ s.parts ∧ 1 ≤ x.trans ∧ x.trans ≤ s.deals.length ∧ 1 ≤ x.kind ∧ x.kind ≤ 6 := by
  obtain ⟨m, hm, hh⟩ := (h.mem x).1 hx
  have hmp := hp m hm
  rw [h.parts, h.dlen]
  rcases hh with ⟨_, rfl⟩ | ⟨_, rfl⟩ | ⟨_, rfl⟩ <;> simp <;> omega

theorem run_quiet (h : Run s0 s ws c ph) (q : Quiet s0) (hf : s.fly = []) : Quiet s := by
  obtain ⟨rfl, h4⟩ := run_end h hf
  refine ⟨hf, ?_, ?_, ?_, by rw [h.parts]; exact q.p5⟩
  · intro n t
    by_cases e : t = s0.deals.length + 1
    · subst e
      show s.state n _ ≠ 2
      by_cases hn : n = 0
      · subst hn; rw [h.st0 q]; simp
      · by_cases hm : n ∈ members ws
        · rw [h.stMem q n (by omega) hm, h4 n hm, (recs_st _).2.2.2.2]; simp
        · rw [h.stOut q n (by omega) hm]; simp
    · show s.state n t ≠ 2
      rw [h.stOther n t e]; exact q.st n t
  · intro n x hx
    rw [h.dlen]; exact h.logTr q n x hx
  · intro t m ht
    rw [h.dlen] at ht
    exact h.nt t m ht

theorem run_state (h : Run s0 s ws c ph) (q : Quiet s0) (hf : s.fly = []) (n : Nat) : s.state n (s0.deals.length + 1) = if n = 0 ∨ n ∈ members ws then 3 else 0 := by
  obtain ⟨rfl, h4⟩ := run_end h hf
  by_cases hn : n = 0
  · subst hn; rw [h.st0 q]; simp
  · by_cases hm : n ∈ members ws
    · rw [h.stMem q n (by omega) hm, h4 n hm, (recs_st _).2.2.2.2]; simp [hm]
    · rw [h.stOut q n (by omega) hm]; simp [hn, hm]

theorem run_value (h : Run s0 s ws c ph) (hf : s.fly = []) (p : Nat) (k v : Int) (h1 : 1 ≤ p) (hm : p ∈ members ws) (hv : findW ws p k = some v) : s.value p k = v := by
  obtain ⟨rfl, h4⟩ := run_end h hf
  unfold St.value
  rw [h.lg p h1, if_pos hm, h4 p hm]
  simp only [recs, List.foldl_append, List.foldl_cons, List.foldl_nil]
  unfold valStep
  have hd : s.deal (s0.deals.length + 1) = ws := deal_last h
  simp [hd, hv]

theorem run_sum (h : Run s0 s ws c ph) : ((members ws).map ph).sum ≤ 20 := by
  have hl : (members ws).length ≤ 5 := membersTo_length ws 5
  have := sum_le (members ws) ph 4 (fun m hm => by
    cases c with
    | false => have := (h.vo rfl).1 m hm; omega
    | true => have := h.co rfl m hm; omega)
  omega

/-- Where no two writes have one part, each write is the one that is found. -/
theorem findW_mem (ws : List Wr) (hd : ws.Pairwise (fun a b => a.part ≠ b.part)) (x : Wr) (hx : x ∈ ws) : findW ws x.part x.key = some x.val := by
  induction ws with
  | nil => cases hx
  | cons a r ih =>
    have hp := List.pairwise_cons.1 hd
    rcases List.mem_cons.1 hx with rfl | hx
    · simp [findW]
    · have hne := hp.1 x hx
      simp only [findW]
      rw [if_neg (fun hh => hne hh.1)]
      exact ih hp.2 hx

end Acc
