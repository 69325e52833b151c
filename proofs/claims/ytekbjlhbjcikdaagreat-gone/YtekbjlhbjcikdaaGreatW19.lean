/-
  Walk of untilCrash: what a node gives up by panic ends here.
-/
import Derived.Test.YtekbjlhbjcikdaaGreatW18
import Derived.Defers
import Derived.Recover
namespace Go.Proofs.YtekbjlhbjcikdaaGreat
open Go.RowKit Acc

theorem Tryz.assertNil (w : World) : (Instr.typeAssert .nilIface 20 150 true).run Tryz.prog w = .ok (.tuple #[.int .i64 0, .bool false]) w := by kernel_rfl
theorem Tryz.assertCrashed (n : Int) (w : World) : (Instr.typeAssert (.iface 150 (.int .i64 n)) 20 150 true).run Tryz.prog w = .ok (.tuple #[.int .i64 n, .bool true]) w := by kernel_rfl

set_option maxRecDepth 100000 in
set_option maxHeartbeats 1000000 in
theorem catch_idle (w : World) :
    CallsD Tryz.prog 118 #[] .returning w fun e u' w' => e = .returned (.tuple #[]) ∧ u' = .returning ∧ w' = w := by
  refine callsD_of_wpS Tryz.func118 rfl fun c₀ cs hu => ?_
  have hta := Tryz.assertNil
  apply wpS_seq
  apply wpS_region
  simp [wpOpsS, go_sem, recoverD, hu, Tryz.ntmps118, Exit.thenS]
  refine wpS_of_wp ?_
  go_wp2
  exact ⟨rfl, .returning, by rw [← hu], _, results_none rfl _ _ _, rfl, rfl, rfl⟩
set_option maxRecDepth 100000 in
set_option maxHeartbeats 1000000 in
theorem catch_crash (n : Nat) (older : List PanicEntry) (w : World) :
    CallsD Tryz.prog 118 #[] (.panicking ({ v := .iface 150 (.int .i64 n), recovered := false } :: older)) w fun e u' w' =>
      e = .returned (.tuple #[]) ∧ u' = .panicking ({ v := .iface 150 (.int .i64 n), recovered := true } :: older) ∧ w' = w := by
  refine callsD_of_wpS Tryz.func118 rfl fun c₀ cs hu => ?_
  have hta := Tryz.assertCrashed
  apply wpS_seq
  apply wpS_region
  simp [wpOpsS, go_sem, recoverD, hu, Tryz.ntmps118, Exit.thenS]
  refine wpS_of_wp ?_
  go_wp2
  exact ⟨rfl, _, rfl, _, results_none rfl _ _ _, rfl, rfl, rfl⟩
set_option maxRecDepth 100000 in
set_option maxHeartbeats 1000000 in
theorem untilCrash_any {w : World} {L : Lay} {n g : Nat} {caps : Array Value} {r : St × Bool} (hcf : ∀ w, (callFunc g caps).run Tryz.prog w = .ok (.enter g caps) w) (h : Calls Tryz.prog g caps w (Acts L w n r)) :
    Calls Tryz.prog 79 #[.func (Fn.func g) #[] caps] w fun e w' => e = .returned (.tuple #[]) ∧ Leaves L w r.1 w' := by
  have hmf : ∀ (fn : Fn) (first cap : Array Value) (w : World), (Instr.makeFunc fn first cap).run Tryz.prog w = .ok (.func fn first cap) w := fun _ _ _ _ => rfl
  have HC := hide h
  clear h
  go_enter_defers Tryz.func79, Tryz.ntmps79
  go_wp2_with fail
  refine (unhide HC).mono ?_
  intro e w1 ha
  rcases ha.cases with ⟨hr, rfl, hl⟩ | ⟨hr, rfl, hl⟩
  · go_wp2
    refine leaves_cons (f := 118) (args := #[]) (by simp) (by simp [go_sem]) ?_
    refine (catch_idle _).mono ?_
    rintro e u' w'' ⟨rfl, rfl, rfl⟩
    exact ⟨_, results_none rfl _ _ _, rfl, hl⟩
  · refine leaves_cons (f := 118) (args := #[]) (by simp) (by simp [go_sem]) ?_
    refine (catch_crash n [] _).mono ?_
    rintro e u' w'' ⟨rfl, rfl, rfl⟩
    exact ⟨_, results_none rfl _ _ _, rfl, hl⟩
end Go.Proofs.YtekbjlhbjcikdaaGreat
