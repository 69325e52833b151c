/-
  Walk of accordkeep's step.
-/
import Derived.Test.YtekbjlhbjcikdaaGreatK4
import Derived.Deep.DeepCutAuto
namespace Go.Proofs.YtekbjlhbjcikdaaGreat
open Go.RowKit Acc Go.MuLone

def stepP (s : St) (K A B C : Int) : St :=
  if 8 < pickI K 12 then nodeStep s (pickI K 12) A B
  else if 1 < pickI K 12 then msgStep s (pickI K 12) A
  else (s.beginP (writesOf A B C)).1

set_option maxRecDepth 100000 in
set_option maxHeartbeats 1000000 in
theorem step_act {o : Nat → Option Unit} {w0 w1 : World} {rb wb : Nat} {s : St} (h : Kt o w0 rb wb w1 s) (K A B C : Int) (hK : inI K) (hA : inI A) (hB : inI B) (hk : 1 < pickI K 12) :
    Calls Tryz.prog 16 #[.pointer (some ⟨rb, 0, none⟩), .agg #[.int .i64 K, .int .i64 A, .int .i64 B, .int .i64 C]] w1 fun e w' => e = .returned (.bool true) ∧ Kt o w0 rb wb w' (stepP s K A B C) := by
  have hpr := pickI_range K 12 (by omega)
  have hpk := hide (fun w => pick_any K 12 w (by omega) (by omega) hK.1 hK.2)
  have hb1 := below_alloc w1 (Obj.cells #[.int .i64 K, .int .i64 A, .int .i64 B, .int .i64 C] 31)
  have h1 := h.below hb1
  by_cases h8 : 8 < pickI K 12
  · have hP : Hid (stepP s K A B C = nodeStep s (pickI K 12) A B) := by show _ = _; unfold stepP; rw [if_pos h8]
    have hnd := hide (node_any h1 (pickI K 12) K A B C hA hB (by omega))
    generalize pickI K 12 = k at *
    go_enter Tryz.func16, Tryz.ntmps16
    go_wp2_with fail
    refine (unhide hpk _).mono ?_
    rintro e w2 ⟨rfl, rfl⟩
    go_wp2_with fail
    refine (unhide hnd).mono ?_
    rintro e w3 ⟨rfl, h3⟩
    go_wp2
    go_ret
    exact ⟨rfl, by rw [unhide hP]; exact h3⟩
  · have hP : Hid (stepP s K A B C = msgStep s (pickI K 12) A) := by show _ = _; unfold stepP; rw [if_neg h8, if_pos hk]
    have hnd := hide (message_any h1 (pickI K 12) A hA)
    generalize pickI K 12 = k at *
    go_enter Tryz.func16, Tryz.ntmps16
    go_wp2_with fail
    refine (unhide hpk _).mono ?_
    rintro e w2 ⟨rfl, rfl⟩
    go_wp2_with fail
    refine (unhide hnd).mono ?_
    rintro e w3 ⟨rfl, h3⟩
    go_wp2
    go_ret
    exact ⟨rfl, by rw [unhide hP]; exact h3⟩

end Go.Proofs.YtekbjlhbjcikdaaGreat
