/-
  The plain part of NOBODY WAITS FOR EVER: what stands behind each coming of all that flies.
-/
import Derived.Test.YtekbjlhbjcikdaaGreatLiv3
namespace Acc

/-- All are up, and the coordinator has decided. -/
def P1 (s : St) : Prop := (∀ n, s.up n = true) ∧ Settled s
theorem P1.step {s : St} (hk : Ok s) (hf : NoFuse s) (h : P1 s) (hn : s.fly ≠ []) : P1 (s.deliverP 0).1 := by
  refine ⟨?_, settled_first hk hf h.2 hn⟩
  cases hfl : s.fly with
  | nil => exact absurd hfl hn
  | cons m r => intro n; rw [(first_up hk hf hfl).1]; exact h.1 n
/-- And part p waits for answers; those before it are in no doubt. -/
def P2 (p : Nat) (s : St) : Prop := P1 s ∧ Late s ∧ Waits p (fun _ => True) s ∧ ∀ q, 1 ≤ q → q < p → ∀ t, s.state q t ≠ 2
theorem P2.step {p : Nat} {s : St} (hk : Ok s) (hf : NoFuse s) (h : P2 p s) (hn : s.fly ≠ []) : P2 p (s.deliverP 0).1 := by
  obtain ⟨h1, h2, h3, h4⟩ := h
  refine ⟨h1.step hk hf hn, ?_⟩
  cases hfl : s.fly with
  | nil => exact absurd hfl hn
  | cons m r => exact ⟨(late_step hk hf h2 hfl).late, waits_step hk hf h2 (h1.1 p) h3 hfl, fun q q1 q2 t => done_step hk hf h2 (h4 q q1 q2 t) hfl⟩
theorem Inv.known {s : St} (hi : Inv s) {p t : Nat} (hp : 1 ≤ p) (h : s.state p t = 2) : s.h 0 t ≠ [] ∧ s.mem t p ∧ 1 ≤ t ∧ t ≤ s.deals.length := by
  have h2 := (hi.h2).1 h
  have := hi.nmb p t hp (by rw [h2]; simp)
  exact ⟨this.2, this.1, hi.rng t this.2⟩
theorem P2.begin {p : Nat} {s : St} (hk : Ok s) (h3 : s.parts = 3) (hf : NoFuse s) (h1 : P1 s) (hfl : s.fly = []) (hp : 1 ≤ p) (hd : ∀ q, 1 ≤ q → q < p → ∀ t, s.state q t ≠ 2) : NoFuse (s.tick p).1 ∧ P2 p (s.tick p).1 := by
  have A := tick_asked hk h3 hf hfl p (by omega)
  generalize (s.tick p).1 = s' at A
  have hst : ∀ n t, s'.state n t = s.state n t := fun n t => by unfold St.state; rw [A.log]
  refine ⟨A.nofuse, ⟨fun n => by rw [A.up]; exact h1.1 n, fun t => by rw [hst]; exact h1.2 t⟩, fun m hm => .inr (.inr (A.kind m hm)), ?_, fun q q1 q2 t => by rw [hst]; exact hd q q1 q2 t⟩
  intro t _ h2
  rw [hst] at h2
  obtain ⟨k1, k2, k3, k4⟩ := hk.inv.known hp h2
  refine .inl ⟨0, ⟨by rw [A.up]; exact h1.1 0, ?_⟩, by omega, A.zero t k3 k4 h2⟩
  rw [hst]
  have hlaw := hk.inv.law 0 t
  unfold Law at hlaw
  rw [if_pos rfl] at hlaw
  rw [hk.inv.st]
  rcases hlaw with q | q | q | q
  · exact absurd q k1
  · exact absurd ((hk.inv.h1).2 ⟨rfl, q⟩) (h1.2 t)
  · left; rw [q]; rfl
  · right; left; rw [q]; rfl
theorem P2.finish {p : Nat} {s : St} (h : P2 p s) (hfl : s.fly = []) : ∀ t, s.state p t ≠ 2 := by
  intro t h2
  rcases h.2.2.1 t trivial h2 with ⟨n, _, _, hin⟩ | ⟨x, hx, _⟩
  · rw [hfl] at hin; simp at hin
  · rw [hfl] at hx; simp at hx

/-- What Ended looks for at last. -/
structure EndP (s : St) : Prop where
  none1 : ∀ n t, n ≤ 3 → s.state n t ≠ 1 ∧ s.state n t ≠ 2
  all3 : ∀ n t, s.state 0 t = 3 → s.mem t n → s.state n t = 3
  free : ∀ p k, 1 ≤ p → p ≤ 3 → s.holder p k = 0
theorem holdFrom_free (s : St) (p : Nat) (k : Int) (h : ∀ t, s.state p t ≠ 2) (n t : Nat) : holdFrom s p k n t = 0 := by
  induction n generalizing t with
  | zero => rfl
  | succ n ih =>
    simp only [holdFrom]
    rw [if_neg (by unfold St.holds; simp [h t])]
    exact ih (t + 1)
theorem endP {s : St} (hk : Ok s) (h3 : s.parts = 3) (h1 : P1 s) (hd : ∀ q, 1 ≤ q → q ≤ 3 → ∀ t, s.state q t ≠ 2) : EndP s := by
  have hi := hk.inv
  have n1 : ∀ n t, n ≤ 3 → s.state n t ≠ 1 ∧ s.state n t ≠ 2 := by
    intro n t hn
    rcases Nat.eq_zero_or_pos n with e | e
    · subst e
      refine ⟨h1.2 t, ?_⟩
      rw [hi.st]
      have hl := hi.law 0 t
      unfold Law at hl
      rw [if_pos rfl] at hl
      rcases hl with q | q | q | q <;> rw [q] <;> simp
    · refine ⟨?_, hd n e hn t⟩
      intro h
      have := ((hi.h1).1 h).1
      omega
  refine ⟨n1, ?_, fun p k p1 p3 => holdFrom_free s p k (hd p p1 p3) _ _⟩
  intro n t hc hm
  have h0 : s.h 0 t = [1, 3] := by
    rcases (hi.h3).1 hc with q | q
    · exact q.2
    · exact absurd rfl q.1
  have hn3 : n ≤ 3 := by have := hi.mem_le hm; omega
  rcases hi.cmt t h0 n hm with q | q
  · exact absurd ((hi.h2).2 q) (n1 n t hn3).2
  · rw [hi.st, q]; rfl

/-- Helped: who may answer part p: the other members that are in no doubt. -/
def Knows (p : Nat) (s : St) (t : Nat) : Prop := ∃ n, s.mem t n ∧ n ≠ p ∧ s.state n t ≠ 2
def Pd (p : Nat) (X : Nat → Prop) (D : Nat → Prop) (s : St) : Prop := s.up p = true ∧ Late s ∧ Waits p X s ∧ ∀ t, D t → s.state p t ≠ 2
theorem Pd.step {p : Nat} {X D : Nat → Prop} {s : St} (hk : Ok s) (hf : NoFuse s) (h : Pd p X D s) (hn : s.fly ≠ []) : Pd p X D (s.deliverP 0).1 := by
  obtain ⟨h1, h2, h3, h4⟩ := h
  cases hfl : s.fly with
  | nil => exact absurd hfl hn
  | cons m r => exact ⟨by rw [(first_up hk hf hfl).1]; exact h1, (late_step hk hf h2 hfl).late, waits_step hk hf h2 h1 h3 hfl, fun t ht => done_step hk hf h2 (h4 t ht) hfl⟩
theorem Pd.begin {p : Nat} {s : St} (hk : Ok s) (h3 : s.parts = 3) (hf : NoFuse s) (hu : ∀ n, 1 ≤ n → s.up n = true) (hfl : s.fly = []) (hp : 1 ≤ p) : NoFuse (s.tick p).1 ∧ Pd p (Knows p s) (fun t => s.state p t ≠ 2) (s.tick p).1 := by
  have A := tick_asked hk h3 hf hfl p (by omega)
  generalize (s.tick p).1 = s' at A
  have hst : ∀ n t, s'.state n t = s.state n t := fun n t => by unfold St.state; rw [A.log]
  refine ⟨A.nofuse, by rw [A.up]; exact hu p hp, fun m hm => .inr (.inr (A.kind m hm)), ?_, fun t ht => by rw [hst]; exact ht⟩
  intro t hX h2
  rw [hst] at h2
  obtain ⟨k1, k2, k3, k4⟩ := hk.inv.known hp h2
  obtain ⟨n, hm, hnp, hn2⟩ := hX
  have hn1 := St.mem_pos hm
  refine .inl ⟨n, ⟨by rw [A.up]; exact hu n hn1, ?_⟩, hnp, A.mems t n k3 k4 h2 hm hnp⟩
  rw [hst]
  have hlaw := hk.inv.law n t
  unfold Law at hlaw
  rw [if_neg (by omega)] at hlaw
  have e := hk.inv.st n t
  rcases hlaw with q | q | q | q | q
  · right; right; rw [e, q]; exact ⟨rfl, by omega⟩
  · exact absurd ((hk.inv.h2).2 q) hn2
  · left; rw [e, q]; rfl
  · right; left; rw [e, q]; rfl
  · right; left; rw [e, q]; rfl
theorem Pd.finish {p : Nat} {X D : Nat → Prop} {s : St} (h : Pd p X D s) (hfl : s.fly = []) (t : Nat) (hX : X t) : s.state p t ≠ 2 := by
  intro h2
  rcases h.2.2.1 t hX h2 with ⟨n, _, _, hin⟩ | ⟨x, hx, _⟩
  · rw [hfl] at hin; simp at hin
  · rw [hfl] at hx; simp at hx

end Acc
