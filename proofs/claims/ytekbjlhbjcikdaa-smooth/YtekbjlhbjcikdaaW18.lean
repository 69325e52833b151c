/-
  Walks of Log and Logs.
-/
import Derived.Test.YtekbjlhbjcikdaaW17
namespace Go.Proofs.Ytekbjlhbjcikdaa
open Go.RowKit Acc

end Go.Proofs.Ytekbjlhbjcikdaa
