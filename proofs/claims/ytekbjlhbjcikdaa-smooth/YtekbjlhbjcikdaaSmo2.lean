/-
  The plain part of Smooth, second half: one message comes; the end.
-/
import Derived.Test.YtekbjlhbjcikdaaSmo
namespace Acc

theorem stOf_none (l : List (Nat × Nat)) (t : Nat) (h : ∀ x, x ∈ l → x.1 ≠ t) : stOf l t = 0 := by
  unfold stOf
  have : ∀ (l : List (Nat × Nat)) (a : Nat), (∀ x, x ∈ l → x.1 ≠ t) → l.foldl (fun s x => if x.1 = t then x.2 else s) a = a := by
    intro l
    induction l with
    | nil => intro a _; rfl
    | cons y r ih =>
      intro a hl
      simp only [List.foldl_cons]
      rw [if_neg (hl y (by simp))]
      exact ih a (fun x hx => hl x (by simp [hx]))
  exact this l 0 h
theorem stOf_other (l b : List (Nat × Nat)) (t : Nat) (h : ∀ x, x ∈ b → x.1 ≠ t) : stOf (l ++ b) t = stOf l t := by
  rw [stOf_append]
  generalize stOf l t = a
  induction b generalizing a with
  | nil => rfl
  | cons y r ih =>
    simp only [List.foldl_cons]
    rw [if_neg (h y (by simp))]
    exact ih (fun x hx => h x (by simp [hx])) a

theorem recs_tr (t p : Nat) : ∀ x, x ∈ recs t p → x.1 = t := by
  intro x hx
  match p, hx with
  | 0, hx => simp [recs] at hx
  | 1, hx => simp [recs] at hx; simp [hx]
  | 2, hx => simp [recs] at hx; simp [hx]
  | 3, hx => simp [recs] at hx; simp [hx]
  | 4, hx => simp [recs] at hx; rcases hx with rfl | rfl <;> rfl
  | n + 5, hx => simp [recs] at hx; simp [hx]

variable {s0 s : St} {ws : List Wr} {c : Bool} {ph : Nat → Nat}

theorem Quiet.base (q : Quiet s0) (n : Nat) : stOf (s0.log n) (s0.deals.length + 1) = 0 :=
  stOf_none _ _ (fun x hx => by have := (q.lt n x hx).2; omega)

theorem Run.stMem (h : Run s0 s ws c ph) (q : Quiet s0) (m : Nat) (h1 : 1 ≤ m) (hm : m ∈ members ws) : s.state m (s0.deals.length + 1) = stOf (recs (s0.deals.length + 1) (ph m)) (s0.deals.length + 1) := by
  unfold St.state
  rw [h.lg m h1, if_pos hm, stOf_append, q.base m]; rfl
theorem Run.stOut (h : Run s0 s ws c ph) (q : Quiet s0) (m : Nat) (h1 : 1 ≤ m) (hm : m ∉ members ws) : s.state m (s0.deals.length + 1) = 0 := by
  unfold St.state
  rw [h.lg m h1, if_neg hm, List.append_nil, q.base m]
theorem Run.st0 (h : Run s0 s ws c ph) (q : Quiet s0) : s.state 0 (s0.deals.length + 1) = if c then 3 else 1 := by
  unfold St.state
  rw [h.l0, stOf_append, q.base 0]
  cases c <;> simp
theorem Run.stOther (h : Run s0 s ws c ph) (n t : Nat) (ht : t ≠ s0.deals.length + 1) : s.state n t = stOf (s0.log n) t := by
  unfold St.state
  by_cases hn : n = 0
  · subst hn
    rw [h.l0]
    refine stOf_other _ _ _ ?_
    intro x hx
    cases c <;> simp at hx
    · subst hx; exact fun e => ht e.symm
    · rcases hx with rfl | rfl <;> exact fun e => ht e.symm
  · rw [h.lg n (by omega)]
    refine stOf_other _ _ _ ?_
    intro x hx
    split at hx
    · rw [recs_tr _ _ x hx]; exact fun e => ht e.symm
    · simp at hx

theorem holdFrom_none (s : St) (p : Nat) (k : Int) (h : ∀ t, s.holds p k t = false) : ∀ n t, holdFrom s p k n t = 0
  | 0, _ => rfl
  | n + 1, t => by simp only [holdFrom, h t]; exact holdFrom_none s p k h n (t + 1)
theorem clashTo_zero (s : St) (p t : Nat) (h : ∀ k : Nat, s.holder p k = 0) : ∀ k, clashTo s p t k = false
  | 0 => rfl
  | k + 1 => by simp [clashTo, clashTo_zero s p t h k, h k]

theorem Run.noClash (h : Run s0 s ws c ph) (q : Quiet s0) (m : Nat) (h1 : 1 ≤ m) (hm : m ∈ members ws) (hp : ph m = 0) (t : Nat) : s.clashes m t = false := by
  refine clashTo_zero s m t (fun k => holdFrom_none s m k (fun t' => ?_) _ _) 4
  have : s.state m t' ≠ 2 := by
    by_cases e : t' = s0.deals.length + 1
    · subst e; rw [h.stMem q m h1 hm, hp]; simp [recs, stOf]
    · rw [h.stOther m t' e]; exact q.st m t'
  simp [St.holds, this]

theorem deal_last (h : Run s0 s ws c ph) : s.deal (s0.deals.length + 1) = ws := by
  unfold St.deal
  rw [h.deals]
  simp [List.getD]

def upd (ph : Nat → Nat) (m v : Nat) : Nat → Nat := fun i => if i = m then v else ph i

/-- A vote for the transaction: a member is prepared. -/
theorem run_begin (q : Quiet s0) (hw : ∃ m, m ∈ members ws) : Run s0 (s0.begin ws) ws false (fun _ => 0) := by
  have hl := membersTo_length ws 5
  have hdl : (({ s0 with deals := s0.deals ++ [ws] } : St).write 0 (s0.deals.length + 1) 1).deal (s0.deals.length + 1) = ws := by simp [St.deal, St.write, List.getD]
  have hb : s0.begin ws = (({ s0 with deals := s0.deals ++ [ws] } : St).write 0 (s0.deals.length + 1) 1).tellTo 1 (s0.deals.length + 1) (members ws) := by
    unfold St.begin St.tell; rw [hdl]
  have hlen : (({ s0 with deals := s0.deals ++ [ws] } : St).write 0 (s0.deals.length + 1) 1).fly.length + (members ws).length ≤ 60 := by
    have : (members ws).length ≤ 5 := hl
    simp [St.write, q.fly]; omega
  obtain ⟨t1, t2, t3, t4, t5⟩ := tellTo_fly _ 1 (s0.deals.length + 1) (members ws) hlen
  rw [← hb] at t1 t2 t3 t4 t5
  have hfl : (s0.begin ws).fly = (members ws).map (fun m => (⟨1, 0, m, s0.deals.length + 1⟩ : Msg)) := by rw [t1]; simp [St.write, q.fly]
  refine ⟨by rw [t5]; rfl, by rw [t3]; rfl, ?_, ?_, ?_, ?_, ?_, ?_, ?_, ?_, ?_⟩
  · intro n hn
    rw [t2]
    simp only [St.write]
    rw [if_neg (by omega)]
    split <;> simp [recs]
  · rw [t2]; simp [St.write]
  · intro m hm; rw [t4]; simp [St.write, q.nt _ m (Nat.lt_succ_self _)]
  · intro t m ht; rw [t4]; exact q.nt t m (by omega)
  · intro _
    obtain ⟨m, hm⟩ := hw
    exact ⟨fun _ _ => by omega, m, hm, by omega⟩
  · intro h; cases h
  · intro x
    rw [hfl, List.mem_map]
    constructor
    · rintro ⟨m, hm, rfl⟩; exact ⟨m, hm, .inl ⟨rfl, rfl⟩⟩
    · rintro ⟨m, hm, ⟨_, rfl⟩ | ⟨h, _⟩ | ⟨h, _⟩⟩
      · exact ⟨m, hm, rfl⟩
      · simp at h
      · simp at h
  · rw [hfl]
    have := (membersTo_nodup ws 5).1
    exact List.Pairwise.map _ (fun a b hab e => hab (by injection e)) this
  · rw [hfl]; simp

end Acc
