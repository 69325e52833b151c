/-
  Walk of untilCrash: what a node gives up by panic ends here.
-/
import Derived.Test.YtekbjlhbjcikdaaW18
import Derived.Defers
import Derived.Recover
namespace Go.Proofs.Ytekbjlhbjcikdaa
open Go.RowKit Acc

theorem Try.assertNil (w : World) : (Instr.typeAssert .nilIface 20 87 true).run Try.prog w = .ok (.tuple #[.int .i64 0, .bool false]) w := by kernel_rfl
theorem Try.assertCrashed (n : Int) (w : World) : (Instr.typeAssert (.iface 87 (.int .i64 n)) 20 87 true).run Try.prog w = .ok (.tuple #[.int .i64 n, .bool true]) w := by kernel_rfl

set_option maxRecDepth 100000 in
set_option maxHeartbeats 1000000 in
theorem catch_idle (w : World) :
    CallsD Try.prog 39 #[] .returning w fun e u' w' => e = .returned (.tuple #[]) ∧ u' = .returning ∧ w' = w := by
  refine callsD_of_wpS Try.func39 rfl fun c₀ cs hu => ?_
  have hta := Try.assertNil
  apply wpS_seq
  apply wpS_region
  simp [wpOpsS, go_sem, recoverD, hu, Try.ntmps39, Exit.thenS]
  refine wpS_of_wp ?_
  go_wp2
  exact ⟨rfl, .returning, by rw [← hu], _, results_none rfl _ _ _, rfl, rfl, rfl⟩
set_option maxRecDepth 100000 in
set_option maxHeartbeats 1000000 in
theorem catch_crash (n : Nat) (older : List PanicEntry) (w : World) :
    CallsD Try.prog 39 #[] (.panicking ({ v := .iface 87 (.int .i64 n), recovered := false } :: older)) w fun e u' w' =>
      e = .returned (.tuple #[]) ∧ u' = .panicking ({ v := .iface 87 (.int .i64 n), recovered := true } :: older) ∧ w' = w := by
  refine callsD_of_wpS Try.func39 rfl fun c₀ cs hu => ?_
  have hta := Try.assertCrashed
  apply wpS_seq
  apply wpS_region
  simp [wpOpsS, go_sem, recoverD, hu, Try.ntmps39, Exit.thenS]
  refine wpS_of_wp ?_
  go_wp2
  exact ⟨rfl, _, rfl, _, results_none rfl _ _ _, rfl, rfl, rfl⟩
set_option maxRecDepth 100000 in
set_option maxHeartbeats 1000000 in
theorem untilCrash_any {w : World} {L : Lay} {n g : Nat} {caps : Array Value} {r : St × Bool} (hcf : ∀ w, (callFunc g caps).run Try.prog w = .ok (.enter g caps) w) (h : Calls Try.prog g caps w (Acts L w n r)) :
    Calls Try.prog 22 #[.func (Fn.func g) #[] caps] w fun e w' => e = .returned (.tuple #[]) ∧ Leaves L w r.1 w' := by
  have hmf : ∀ (fn : Fn) (first cap : Array Value) (w : World), (Instr.makeFunc fn first cap).run Try.prog w = .ok (.func fn first cap) w := fun _ _ _ _ => rfl
  have HC := hide h
  clear h
  go_enter_defers Try.func22, Try.ntmps22
  go_wp2_with fail
  refine (unhide HC).mono ?_
  intro e w1 ha
  rcases ha.cases with ⟨hr, rfl, hl⟩ | ⟨hr, rfl, hl⟩
  · go_wp2
    refine leaves_cons (f := 39) (args := #[]) (by simp) (by simp [go_sem]) ?_
    refine (catch_idle _).mono ?_
    rintro e u' w'' ⟨rfl, rfl, rfl⟩
    exact ⟨_, results_none rfl _ _ _, rfl, hl⟩
  · refine leaves_cons (f := 39) (args := #[]) (by simp) (by simp [go_sem]) ?_
    refine (catch_crash n [] _).mono ?_
    rintro e u' w'' ⟨rfl, rfl, rfl⟩
    exact ⟨_, results_none rfl _ _ _, rfl, hl⟩
end Go.Proofs.Ytekbjlhbjcikdaa
