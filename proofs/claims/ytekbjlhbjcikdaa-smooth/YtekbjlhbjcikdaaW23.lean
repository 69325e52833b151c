/-
  Walks of the face's calls with a node: Tick, Crash, Recover.
-/
import Derived.Test.YtekbjlhbjcikdaaW22
namespace Go.Proofs.Ytekbjlhbjcikdaa
open Go.RowKit Acc Go.MuLone

theorem Acts.retD {L : Lay} {w w' : World} {n : Nat} {s : St} {e : Ending} (h : e = .returned (.tuple #[])) (hl : Leaves L w s w') : Acts L w n (s, true) e w' := ⟨h, hl⟩

theorem nodeE_cases (s : St) (n : Int) (u : Bool) : s.nodeE n u = 0 ∧ 0 ≤ n ∧ n ≤ s.parts ∧ s.up n.toNat = u ∨ s.nodeE n u = 1 ∨ s.nodeE n u = 2 := by
  unfold St.nodeE
  split
  · split
    · exact .inl ⟨rfl, by omega, by omega, ‹_›⟩
    · exact .inr (.inr rfl)
  · exact .inr (.inl rfl)


end Go.Proofs.Ytekbjlhbjcikdaa
