/-
  What each call of the document's answers and leaves, in the plain model; and what holds at any time is kept.
-/
import Derived.Test.YtekbjlhbjcikdaaGreatSaf3
namespace Acc

def okAt (ws : List Wr) (parts : Int) (i : Nat) : Bool :=
  match ws[i]? with
  | some x => decide (1 ≤ x.part) && decide (x.part ≤ parts) && decide (0 ≤ x.key) && decide (x.key < 4) && decide (findI (ws.take i) x.part x.key 0 < 0)
  | none => true
def soundB (ws : List Wr) (parts : Int) : Bool := decide (1 ≤ ws.length) && decide (ws.length ≤ 6) && (List.range ws.length).all (okAt ws parts)

theorem soundB_false {ws : List Wr} {parts : Int} {i : Nat} (hi : i < ws.length) (h : okAt ws parts i = false) : soundB ws parts = false := by
  unfold soundB
  have : (List.range ws.length).all (okAt ws parts) = false := by
    rw [List.all_eq_false]
    exact ⟨i, by simpa using hi, by simp [h]⟩
  rw [this]; simp


theorem findI_none (l : List Wr) (p k : Int) (i : Int) (hi : 0 ≤ i) (h : findI l p k i < 0) : ∀ x, x ∈ l → ¬ (x.part = p ∧ x.key = k) := by
  induction l generalizing i with
  | nil => intro x hx; simp at hx
  | cons a r ih =>
    simp only [findI] at h
    split at h
    · omega
    · rename_i hn
      intro x hx
      rcases List.mem_cons.1 hx with rfl | hx
      · exact hn
      · exact ih (i + 1) (by omega) h x hx
theorem soundB_sound {ws : List Wr} {parts : Nat} (h : soundB ws parts = true) : Sound ws parts := by
  unfold soundB at h
  simp only [Bool.and_eq_true, decide_eq_true_eq, List.all_eq_true] at h
  have ha : ∀ x, x ∈ ws → (1 ≤ x.part ∧ x.part ≤ parts) ∧ 0 ≤ x.key ∧ x.key < 4 := by
    intro x hx
    obtain ⟨i, hi, e⟩ := List.mem_iff_getElem.1 hx
    have := h.2 i (by simpa using hi)
    unfold okAt at this
    rw [List.getElem?_eq_getElem hi, e] at this
    simp only [Bool.and_eq_true, decide_eq_true_eq] at this
    omega
  exact ⟨h.1.1, h.1.2, fun x hx => (ha x hx).1, fun x hx => (ha x hx).2⟩

def St.deliverP (s : St) (i : Int) : St × Nat := if 0 ≤ i ∧ i < s.fly.length then ((s.dlv i.toNat).1, 0) else (s, 3)
def St.dropP (s : St) (i : Int) : St × Nat := if 0 ≤ i ∧ i < s.fly.length then (s.drop i.toNat, 0) else (s, 3)
def St.doubleP (s : St) (i : Int) : St × Nat := if 0 ≤ i ∧ i < s.fly.length then (s.dbl i.toNat, 0) else (s, 3)
/-- Why nothing can be done with a node. -/
def St.nodeE (s : St) (n : Int) (u : Bool) : Nat := if 0 ≤ n ∧ n ≤ s.parts then (if s.up n.toNat = u then 0 else 2) else 1
def St.tickP (s : St) (n : Int) : St × Nat := if s.nodeE n true = 0 then ((s.tick n.toNat).1, 0) else (s, s.nodeE n true)
def St.crashP (s : St) (n : Int) : St × Nat := if s.nodeE n true = 0 then (s.down n.toNat, 0) else (s, s.nodeE n true)
def St.recoverP (s : St) (n : Int) : St × Nat := if s.nodeE n false = 0 then ((s.rcv n.toNat).1, 0) else (s, s.nodeE n false)
def St.fuseP (s : St) (n a : Int) : St × Nat := if s.nodeE n true = 0 then (if 0 ≤ a then (s.fused n.toNat a.toNat, 0) else (s, 1)) else (s, s.nodeE n true)
def St.beginP (s : St) (ws : List Wr) : St × (Nat × Nat) :=
  if soundB ws s.parts = true then (if s.up 0 = true then (if s.deals.length < 12 then ((s.bgn ws).1, (s.deals.length + 1, 0)) else (s, (0, 4))) else (s, (0, 2))) else (s, (0, 1))
def St.logP (s : St) (n : Int) : List (Nat × Nat) × Nat := if 0 ≤ n ∧ n ≤ s.parts then (s.log n.toNat, 0) else ([], 1)
def St.stateP (s : St) (n t : Int) : Nat × Nat := if (0 ≤ n ∧ n ≤ s.parts) ∧ 1 ≤ t ∧ t ≤ s.deals.length then (s.state n.toNat t.toNat, 0) else (0, 1)
def St.keyOk (s : St) (p k : Int) : Prop := (1 ≤ p ∧ p ≤ s.parts) ∧ 0 ≤ k ∧ k < 4
instance (s : St) (p k : Int) : Decidable (s.keyOk p k) := by unfold St.keyOk; infer_instance
def St.valueP (s : St) (p k : Int) : Int × Nat := if s.keyOk p k then (s.value p.toNat k, 0) else (0, 1)
def St.holderP (s : St) (p k : Int) : Nat × Nat := if s.keyOk p k then (s.holder p.toNat k, 0) else (0, 1)
def St.upP (s : St) (n : Int) : Bool × Nat := if 0 ≤ n ∧ n ≤ s.parts then (s.up n.toNat, 0) else (false, 1)

theorem Ok.deliverP {s : St} (h : Ok s) (i : Int) : Ok (s.deliverP i).1 := by unfold St.deliverP; split; exact h.dlv _; exact h
theorem Ok.dropP {s : St} (h : Ok s) (i : Int) : Ok (s.dropP i).1 := by unfold St.dropP; split; exact h.drop _; exact h
theorem Ok.doubleP {s : St} (h : Ok s) (i : Int) : Ok (s.doubleP i).1 := by unfold St.doubleP; split; exact h.dbl _; exact h
theorem Ok.tickP {s : St} (h : Ok s) (n : Int) : Ok (s.tickP n).1 := by unfold St.tickP; split; exact h.tick _; exact h
theorem Ok.crashP {s : St} (h : Ok s) (n : Int) : Ok (s.crashP n).1 := by unfold St.crashP; split; exact h.down _; exact h
theorem Ok.recoverP {s : St} (h : Ok s) (n : Int) : Ok (s.recoverP n).1 := by unfold St.recoverP; split; exact h.rcv _; exact h
theorem Ok.fuseP {s : St} (h : Ok s) (n a : Int) (ha : a < 9223372036854775808) : Ok (s.fuseP n a).1 := by
  unfold St.fuseP
  split
  · split
    · exact h.fused _ _ (by omega)
    · exact h
  · exact h
theorem Ok.beginP {s : St} (h : Ok s) (ws : List Wr) : Ok (s.beginP ws).1 := by
  unfold St.beginP
  split
  · split
    · split
      · exact h.bgn ws (soundB_sound ‹_›) ‹_›
      · exact h
    · exact h
  · exact h

end Acc
