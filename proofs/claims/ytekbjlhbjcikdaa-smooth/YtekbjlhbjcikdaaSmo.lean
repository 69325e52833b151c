/-
  The plain part of Smooth: a transaction in a quiet world is done everywhere, whatever the order in which messages come.
-/
import Derived.Test.YtekbjlhbjcikdaaCalm
namespace Acc

theorem stOf_append (a b : List (Nat × Nat)) (t : Nat) : stOf (a ++ b) t = b.foldl (fun s x => if x.1 = t then x.2 else s) (stOf a t) := by
  simp [stOf, List.foldl_append]

/-- What a member has written by where it stands: 0: it is asked; 1: its Yes is flying; 2: its vote is noted; 3: Commit is flying to it; 4: it has committed. -/
def recs (t : Nat) : Nat → List (Nat × Nat)
  | 0 => []
  | 4 => [(t, 2), (t, 3)]
  | _ => [(t, 2)]

/-- The message that is flying for a member, by where it stands. -/
def Expect (t : Nat) (M : List Nat) (ph : Nat → Nat) (x : Msg) : Prop :=
  ∃ m, m ∈ M ∧ ((ph m = 0 ∧ x = ⟨1, 0, m, t⟩) ∨ (ph m = 1 ∧ x = ⟨2, m, 0, t⟩) ∨ (ph m = 3 ∧ x = ⟨4, 0, m, t⟩))

/-- A world in which nothing is under way. -/
structure Quiet (s : St) : Prop where
  fly : s.fly = []
  st : ∀ n t, stOf (s.log n) t ≠ 2
  lt : ∀ n x, x ∈ s.log n → 1 ≤ x.1 ∧ x.1 ≤ s.deals.length
  nt : ∀ t m, s.deals.length < t → s.noted t m = false
  p5 : s.parts ≤ 5

structure Run (s0 s : St) (ws : List Wr) (c : Bool) (ph : Nat → Nat) : Prop where
  parts : s.parts = s0.parts
  deals : s.deals = s0.deals ++ [ws]
  lg : ∀ n, 1 ≤ n → s.log n = s0.log n ++ (if n ∈ members ws then recs (s0.deals.length + 1) (ph n) else [])
  l0 : s.log 0 = s0.log 0 ++ (s0.deals.length + 1, 1) :: (if c then [(s0.deals.length + 1, 3)] else [])
  nd : ∀ m, m ∈ members ws → s.noted (s0.deals.length + 1) m = decide (2 ≤ ph m)
  nt : ∀ t m, s0.deals.length + 1 < t → s.noted t m = false
  vo : c = false → (∀ m, m ∈ members ws → ph m ≤ 2) ∧ ∃ m, m ∈ members ws ∧ ph m < 2
  co : c = true → ∀ m, m ∈ members ws → ph m = 3 ∨ ph m = 4
  mem : ∀ x, x ∈ s.fly ↔ Expect (s0.deals.length + 1) (members ws) ph x
  dup : s.fly.Nodup
  len : s.fly.length ≤ (members ws).length

theorem mem_eraseIdx_nodup {α : Type} (l : List α) (h : l.Nodup) (i : Nat) (x : α) : x ∈ l.eraseIdx i ↔ x ∈ l ∧ l[i]? ≠ some x := by
  induction l generalizing i with
  | nil => simp
  | cons a r ih =>
    have hr := (List.nodup_cons.1 h).2
    have ha := (List.nodup_cons.1 h).1
    cases i with
    | zero =>
      simp only [List.eraseIdx_cons_zero, List.mem_cons, List.getElem?_cons_zero, ne_eq, Option.some.injEq]
      constructor
      · intro hx; exact ⟨.inr hx, fun e => ha (e ▸ hx)⟩
      · rintro ⟨rfl | hx, hn⟩
        · exact absurd rfl hn
        · exact hx
    | succ i =>
      simp only [List.eraseIdx_cons_succ, List.mem_cons, List.getElem?_cons_succ, ih hr i]
      constructor
      · rintro (rfl | ⟨hx, hn⟩)
        · exact ⟨.inl rfl, fun e => ha (List.mem_of_getElem? e)⟩
        · exact ⟨.inr hx, hn⟩
      · rintro ⟨rfl | hx, hn⟩
        · exact .inl rfl
        · exact .inr ⟨hx, hn⟩

theorem nodup_eraseIdx {α : Type} (l : List α) (h : l.Nodup) (i : Nat) : (l.eraseIdx i).Nodup := h.sublist (List.eraseIdx_sublist l i)
theorem nodup_snoc {α : Type} (l : List α) (x : α) (h : l.Nodup) (hx : x ∉ l) : (l ++ [x]).Nodup := by
  rw [List.nodup_append]
  refine ⟨h, by simp, ?_⟩
  intro a ha b hb e
  simp at hb
  subst hb e
  exact hx ha

/-- The messages that are told are new, each one its own. -/
theorem tellTo_fly (s : St) (kind t : Nat) (l : List Nat) (hl : s.fly.length + l.length ≤ 60) :
    (s.tellTo kind t l).fly = s.fly ++ l.map (fun m => (⟨kind, 0, m, t⟩ : Msg)) ∧ (s.tellTo kind t l).log = s.log ∧ (s.tellTo kind t l).deals = s.deals ∧ (s.tellTo kind t l).noted = s.noted ∧ (s.tellTo kind t l).parts = s.parts := by
  induction l generalizing s with
  | nil => simp [St.tellTo]
  | cons m r ih =>
    simp only [List.length_cons] at hl
    have hlt : s.fly.length < 60 := by omega
    have := ih (s.send ⟨kind, 0, m, t⟩) (by simp [St.send, hlt]; omega)
    simp only [St.tellTo]
    obtain ⟨h1, h2, h3, h4, h5⟩ := this
    refine ⟨?_, ?_, ?_, ?_, ?_⟩
    · rw [h1]; simp [St.send, hlt]
    · rw [h2]; rfl
    · rw [h3]; rfl
    · rw [h4]; rfl
    · rw [h5]; rfl

theorem membersTo_nodup (ws : List Wr) (n : Nat) : (membersTo ws n).Nodup ∧ ∀ m, m ∈ membersTo ws n → 1 ≤ m ∧ m ≤ n := by
  induction n with
  | zero => simp [membersTo]
  | succ n ih =>
    refine ⟨?_, ?_⟩
    · simp only [membersTo]
      split
      · exact nodup_snoc _ _ ih.1 (fun h => by have := ih.2 _ h; omega)
      · simpa using ih.1
    · intro m hm
      simp only [membersTo, List.mem_append] at hm
      rcases hm with hm | hm
      · have := ih.2 m hm; omega
      · split at hm
        · simp at hm; omega
        · simp at hm
theorem membersTo_length (ws : List Wr) (n : Nat) : (membersTo ws n).length ≤ n := by
  induction n with
  | zero => simp [membersTo]
  | succ n ih => simp only [membersTo, List.length_append]; split <;> simp <;> omega
theorem sum_lt (M : List Nat) (f g : Nat → Nat) (h : ∀ x, x ∈ M → f x ≤ g x) (m : Nat) (hm : m ∈ M) (hlt : f m < g m) : (M.map f).sum < (M.map g).sum := by
  have le : ∀ (l : List Nat), (∀ x, x ∈ l → f x ≤ g x) → (l.map f).sum ≤ (l.map g).sum := by
    intro l
    induction l with
    | nil => intro _; simp
    | cons a r ih =>
      intro hl
      have h1 := hl a (by simp)
      have h2 := ih (fun x hx => hl x (by simp [hx]))
      simp only [List.map_cons, List.sum_cons]; omega
  induction M with
  | nil => simp at hm
  | cons a r ih =>
    simp only [List.map_cons, List.sum_cons]
    have h1 := h a (by simp)
    have hr := le r (fun x hx => h x (by simp [hx]))
    rcases List.mem_cons.1 hm with rfl | hm
    · omega
    · have := ih (fun x hx => h x (by simp [hx])) hm; omega
theorem sum_le (M : List Nat) (f : Nat → Nat) (b : Nat) (h : ∀ x, x ∈ M → f x ≤ b) : (M.map f).sum ≤ M.length * b := by
  induction M with
  | nil => simp
  | cons a r ih =>
    have h1 := h a (by simp)
    have h2 := ih (fun x hx => h x (by simp [hx]))
    simp only [List.map_cons, List.sum_cons, List.length_cons, Nat.add_mul]; omega

end Acc
