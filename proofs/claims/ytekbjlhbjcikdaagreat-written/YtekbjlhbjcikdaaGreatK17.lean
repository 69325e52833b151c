/-
  Written: a step lets logs grow.
-/
import Derived.Test.YtekbjlhbjcikdaaGreatK16
namespace Go.Proofs.YtekbjlhbjcikdaaGreat
open Go.RowKit Acc Go.MuLone

theorem _root_.Acc.Grow.step (s : St) (K A B C : Int) : Grow s (stepP s K A B C) := by
  unfold stepP
  split
  · unfold nodeStep
    split
    · split
      · exact Grow.crashP _ _
      · split
        · exact Grow.tickP _ _
        · split
          · exact Grow.fuseP _ _ _
          · exact Grow.refl _
    · split
      · exact Grow.recoverP _ _
      · exact Grow.refl _
  · split
    · unfold msgStep
      split
      · exact Grow.refl _
      · split
        · exact Grow.deliverP _ _
        · split
          · exact Grow.dropP _ _
          · exact Grow.doubleP _ _
    · exact Grow.beginP _ _
end Go.Proofs.YtekbjlhbjcikdaaGreat
