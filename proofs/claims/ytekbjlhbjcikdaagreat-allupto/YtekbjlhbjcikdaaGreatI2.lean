/-
  Records: the iterator's maker.
-/
import Derived.Test.YtekbjlhbjcikdaaGreatI1
namespace Go.Proofs.YtekbjlhbjcikdaaGreat
open Go.RowKit Acc

set_option maxRecDepth 100000 in
theorem records_any (w : World) (wb : Nat) :
    Calls Tryz.prog 32 #[.pointer (some ⟨wb, 0, none⟩)] w fun e w' => e = .returned (.func (.func 62) #[] #[.pointer (some ⟨w.heap.size, 0, none⟩)]) ∧ Below w.heap.size w w' ∧ w'.cell? ⟨w.heap.size, 0, none⟩ = some (.pointer (some ⟨wb, 0, none⟩)) := by
  go_enter Tryz.func32, Tryz.ntmps32
  go_wp2_with fail
  go_ret
  refine ⟨?_, below_alloc w _, by simp [go_sem]⟩
  rfl
end Go.Proofs.YtekbjlhbjcikdaaGreat
