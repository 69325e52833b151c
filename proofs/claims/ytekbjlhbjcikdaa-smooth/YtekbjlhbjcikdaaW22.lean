/-
  Walks of the face's calls with a node: Tick, Crash, Recover, Fuse, Up.
-/
import Derived.Test.YtekbjlhbjcikdaaW21
namespace Go.Proofs.Ytekbjlhbjcikdaa
open Go.RowKit Acc Go.MuLone

theorem Rep.drewn {w : World} {L : Lay} {s : St} (h : Rep w L s) : Rep w.drew L s := h.below (Below.refl _ _).drew

end Go.Proofs.Ytekbjlhbjcikdaa
