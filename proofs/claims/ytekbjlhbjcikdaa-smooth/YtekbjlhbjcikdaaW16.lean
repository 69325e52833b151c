/-
  Walks of giveUpAll, askAround, Tick, Recover, Fuse.
-/
import Derived.Test.YtekbjlhbjcikdaaW15
namespace Go.Proofs.Ytekbjlhbjcikdaa
open Go.RowKit Acc

theorem giveFrom_step (s : St) (n t : Nat) : s.giveFrom (n + 1) t = andThen (if s.state 0 t = 1 then s.does 0 (s.all t 4 5) else (s, true)) fun s' => s'.giveFrom n (t + 1) := rfl
theorem askFrom_step (s : St) (p n t : Nat) : s.askFrom p (n + 1) t = andThen (if s.state p t = 2 then s.does p (s.asks p t) else (s, true)) fun s' => s'.askFrom p n (t + 1) := rfl
theorem andThen_true {r : St × Bool} {f : St → St × Bool} (h : r.2 = true) : andThen r f = f r.1 := by unfold andThen; rw [if_pos h]
theorem andThen_false {r : St × Bool} {f : St → St × Bool} (h : r.2 = false) : andThen r f = (r.1, false) := by unfold andThen; rw [if_neg (by simp [h])]; rw [← h]

theorem does_more_true {s sj s' : St} {n : Nat} {l : List Deed} {a : Deed} (h : s.does n l = (sj, true)) (h2 : sj.does n [a] = (s', true)) : s.does n (l ++ [a]) = (s', true) := by
  rw [does_append, h]; exact h2
theorem does_more_false {s sj s' : St} {n : Nat} {l r : List Deed} {a : Deed} (h : s.does n l = (sj, true)) (h2 : sj.does n [a] = (s', false)) : s.does n (l ++ a :: r) = (s', false) := by
  rw [does_append, h]
  simp only [if_true]
  have := does_stop (a := a) (s := sj) (n := n) r (by rw [h2])
  rw [this, h2]
def askL (p t : Nat) (l : List Nat) : List Deed := (l.filter fun m => m != p).map fun m => .snd ⟨6, p, m, t⟩
theorem askL_take_ne (p t : Nat) (l : List Nat) (j x : Nat) (h : l[j]? = some x) (hx : ¬ x = p) : askL p t (l.take (j + 1)) = askL p t (l.take j) ++ [.snd ⟨6, p, x, t⟩] := by
  unfold askL
  rw [List.take_add_one, h, List.filter_append, List.map_append]
  simp [hx]
theorem askL_take_eq (p t : Nat) (l : List Nat) (j x : Nat) (h : l[j]? = some x) (hx : x = p) : askL p t (l.take (j + 1)) = askL p t (l.take j) := by
  unfold askL
  rw [List.take_add_one, h, List.filter_append, List.map_append]
  simp [hx]
theorem askL_cut (p t : Nat) (l : List Nat) (j x : Nat) (h : l[j]? = some x) (hx : ¬ x = p) : askL p t l = askL p t (l.take j) ++ .snd ⟨6, p, x, t⟩ :: askL p t (l.drop (j + 1)) := by
  have e : l = l.take j ++ (x :: l.drop (j + 1)) := by
    have := List.take_append_drop j l
    rw [List.drop_eq_getElem?_toList_append, h] at this
    exact this.symm
  conv => lhs; rw [e]
  unfold askL
  rw [List.filter_append, List.map_append, List.filter_cons_of_pos (by simpa using hx), List.map_cons]

end Go.Proofs.Ytekbjlhbjcikdaa
