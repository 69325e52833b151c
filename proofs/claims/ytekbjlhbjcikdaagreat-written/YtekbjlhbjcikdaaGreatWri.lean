/-
  The plain part of Written: logs only grow.
-/
import Derived.Test.YtekbjlhbjcikdaaGreatFace
namespace Acc

def Grow (s s' : St) : Prop := ∀ n, s.log n <+: s'.log n
theorem Grow.refl (s : St) : Grow s s := fun _ => List.prefix_refl _
theorem Grow.trans {a b c : St} (h : Grow a b) (k : Grow b c) : Grow a c := fun n => (h n).trans (k n)
theorem Grow.of {s s' : St} (e : s'.log = s.log) : Grow s s' := by intro n; rw [e]; exact List.prefix_refl _
theorem Grow.act (s : St) (n : Nat) (a : Deed) : Grow s (s.act n a) := by
  cases a with
  | wrt t st =>
    intro i
    simp only [St.act, St.write]
    split
    · rename_i e; subst e; exact List.prefix_append _ _
    · exact List.prefix_refl _
  | snd m => exact Grow.of rfl
theorem Grow.does (s : St) (n : Nat) (l : List Deed) : Grow s (s.does n l).1 := by
  induction l generalizing s with
  | nil => exact Grow.refl s
  | cons a r ih =>
    simp only [St.does]
    split
    · exact Grow.of rfl
    · exact ((Grow.of rfl : Grow s (s.burn n)).trans (Grow.act _ n a)).trans (ih _)
theorem Grow.giveFrom (s : St) (n t : Nat) : Grow s (s.giveFrom n t).1 := by
  induction n generalizing s t with
  | zero => exact Grow.refl s
  | succ n ih =>
    simp only [St.giveFrom]
    split
    · unfold andThen
      split
      · exact (Grow.does _ _ _).trans (ih _ (t + 1))
      · exact Grow.does _ _ _
    · exact ih s (t + 1)
theorem Grow.askFrom (s : St) (p n t : Nat) : Grow s (s.askFrom p n t).1 := by
  induction n generalizing s t with
  | zero => exact Grow.refl s
  | succ n ih =>
    simp only [St.askFrom]
    split
    · unfold andThen
      split
      · exact (Grow.does _ _ _).trans (ih _ (t + 1))
      · exact Grow.does _ _ _
    · exact ih s (t + 1)
theorem Grow.deliverP (s : St) (i : Int) : Grow s (s.deliverP i).1 := by
  unfold St.deliverP
  split
  · unfold St.dlv
    split
    · rename_i m _
      unfold St.come
      split
      · unfold St.recv
        have h1 : Grow s ((s.drop i.toNat).heard m) := by unfold St.heard; split <;> exact Grow.of rfl
        exact h1.trans (Grow.does _ _ _)
      · exact Grow.of rfl
    · exact Grow.refl s
  · exact Grow.refl s
theorem Grow.dropP (s : St) (i : Int) : Grow s (s.dropP i).1 := by unfold St.dropP; split <;> exact Grow.of rfl
theorem Grow.doubleP (s : St) (i : Int) : Grow s (s.doubleP i).1 := by
  unfold St.doubleP St.dbl
  split
  · split <;> exact Grow.of rfl
  · exact Grow.refl s
theorem Grow.tickP (s : St) (n : Int) : Grow s (s.tickP n).1 := by
  unfold St.tickP
  split
  · unfold St.tick
    split
    · exact Grow.giveFrom _ _ _
    · exact Grow.askFrom _ _ _ _
  · exact Grow.refl s
theorem Grow.crashP (s : St) (n : Int) : Grow s (s.crashP n).1 := by unfold St.crashP; split <;> exact Grow.of rfl
theorem Grow.recoverP (s : St) (n : Int) : Grow s (s.recoverP n).1 := by
  unfold St.recoverP
  split
  · unfold St.rcv
    split
    · exact (Grow.of rfl : Grow s (s.rise _)).trans (Grow.giveFrom _ _ _)
    · exact Grow.of rfl
  · exact Grow.refl s
theorem Grow.fuseP (s : St) (n a : Int) : Grow s (s.fuseP n a).1 := by
  unfold St.fuseP
  split
  · split <;> exact Grow.of rfl
  · exact Grow.refl s
theorem Grow.beginP (s : St) (ws : List Wr) : Grow s (s.beginP ws).1 := by
  unfold St.beginP
  split
  · split
    · split
      · unfold St.bgn
        exact (Grow.of rfl : Grow s (s.deal' ws)).trans (Grow.does _ _ _)
      · exact Grow.refl s
    · exact Grow.refl s
  · exact Grow.refl s

/-! A log's records follow one another as they may. -/
def firstOf (n : Nat) : Nat := if n = 0 then 1 else 2
def MayFollow (n s x : Nat) : Prop := (s = 0 ∧ (x = firstOf n ∨ (n ≠ 0 ∧ x = 4))) ∨ (s = firstOf n ∧ (x = 3 ∨ x = 4))
theorem stOf_take (l : List (Nat × Nat)) (t j : Nat) (x : Nat × Nat) (h : l[j]? = some x) : stOf (l.take (j + 1)) t = if x.1 = t then x.2 else stOf (l.take j) t := by
  have e : l.take (j + 1) = l.take j ++ [x] := by rw [List.take_add_one, h]; rfl
  rw [e]
  unfold stOf
  rw [List.foldl_append]
  rfl
theorem law_follow {n : Nat} {l : List (Nat × Nat)} (hl : ∀ t, Law n (hist l t)) (j : Nat) (x : Nat × Nat) (h : l[j]? = some x) : MayFollow n (stOf (l.take j) x.1) x.2 := by
  have e : l = l.take j ++ x :: l.drop (j + 1) := by
    have hlt : j < l.length := (List.getElem?_eq_some_iff.1 h).1
    have hx : l[j] = x := (List.getElem?_eq_some_iff.1 h).2
    rw [← hx, List.getElem_cons_drop, List.take_append_drop]
  have hh : hist l x.1 = hist (l.take j) x.1 ++ x.2 :: hist (l.drop (j + 1)) x.1 := by
    conv => lhs; rw [e]
    unfold hist
    rw [List.filter_append, List.map_append, List.filter_cons_of_pos (by simp), List.map_cons]
  have hL := hl x.1
  rw [hh] at hL
  rw [stOf_hist]
  generalize hist (l.take j) x.1 = A at hL ⊢
  generalize hist (l.drop (j + 1)) x.1 = R at hL
  unfold Law at hL
  unfold MayFollow firstOf
  by_cases n0 : n = 0
  · rw [if_pos n0] at hL ⊢
    rcases A with _ | ⟨a, _ | ⟨b, A⟩⟩
    · simp at hL ⊢; omega
    · simp at hL ⊢; omega
    · simp at hL
  · rw [if_neg n0] at hL ⊢
    rcases A with _ | ⟨a, _ | ⟨b, A⟩⟩
    · simp at hL ⊢; omega
    · simp at hL ⊢; omega
    · simp at hL
theorem Inv.rec_range {s : St} (hi : Inv s) (n j : Nat) (x : Nat × Nat) (h : (s.log n)[j]? = some x) : 1 ≤ x.1 ∧ x.1 ≤ s.deals.length := by
  have hm : x.2 ∈ hist (s.log n) x.1 := (mem_hist _ _ _).2 (List.mem_of_getElem? h)
  have hne : s.h n x.1 ≠ [] := by intro e; unfold St.h at e; rw [e] at hm; simp at hm
  by_cases n0 : n = 0
  · subst n0; exact hi.rng _ hne
  · exact hi.rng _ (hi.nmb n x.1 (by omega) hne).2
theorem last_state {l : List (Nat × Nat)} {x : Nat × Nat} (h : l[l.length - 1]? = some x) : stOf l x.1 = x.2 := by
  have hlt := (List.getElem?_eq_some_iff.1 h).1
  have := stOf_take l x.1 (l.length - 1) x h
  rw [List.take_of_length_le (by omega), if_pos rfl] at this
  exact this

end Acc
