/-
  Walk of accordkeep.Agreed.
-/
import Derived.Test.YtekbjlhbjcikdaaGreatK9
namespace Go.Proofs.YtekbjlhbjcikdaaGreat
open Go.RowKit Acc Go.MuLone

/-- A slice of steps that came in. -/
def StepsAt (w : World) (ra : Option Addr) (rn : Nat) : Prop :=
  rn = 0 ∨ ∃ g o, ra = some ⟨g, o, none⟩ ∧ g < w.heap.size ∧ ∀ i, i < rn → ∃ K A B C, w.cell? ⟨g, o + i * 4, none⟩ = some (.int .i64 K) ∧ w.cell? ⟨g, o + i * 4 + 1, none⟩ = some (.int .i64 A) ∧ w.cell? ⟨g, o + i * 4 + 2, none⟩ = some (.int .i64 B) ∧ w.cell? ⟨g, o + i * 4 + 3, none⟩ = some (.int .i64 C) ∧ inI K ∧ inI A ∧ inI B ∧ inI C
/-- One step of the script, wherever the world stands. -/
theorem StepsAt.get {w wr : World} {ra : Option Addr} {rn : Nat} (h : StepsAt w ra rn) {rb wb : Nat} {s : St} (hK : Kt (fun _ => none) w rb wb wr s) (i : Nat) (hi : i < rn) :
    ∃ g o K A B C, ra = some ⟨g, o, none⟩ ∧ wr.cell? ⟨g, o + i * 4, none⟩ = some (.int .i64 K) ∧ wr.cell? ⟨g, o + i * 4 + 1, none⟩ = some (.int .i64 A) ∧ wr.cell? ⟨g, o + i * 4 + 2, none⟩ = some (.int .i64 B) ∧ wr.cell? ⟨g, o + i * 4 + 3, none⟩ = some (.int .i64 C) ∧ inI K ∧ inI A ∧ inI B ∧ inI C := by
  rcases h with h | ⟨g, o, rfl, hg, hst⟩
  · omega
  · obtain ⟨K, A, B, C, c0, c1, c2, c3, r⟩ := hst i hi
    have hb := hK.blw
    exact ⟨g, o, K, A, B, C, rfl, (hb.cell (p := ⟨g, _, none⟩) hg).trans c0, (hb.cell (p := ⟨g, _, none⟩) hg).trans c1, (hb.cell (p := ⟨g, _, none⟩) hg).trans c2, (hb.cell (p := ⟨g, _, none⟩) hg).trans c3, r⟩

set_option maxRecDepth 100000 in
set_option maxHeartbeats 4000000 in
theorem agreedLaw_any (w : World) (ra : Option Addr) (rn rc : Nat) (hrn : rn ≤ maxLen) (_hrc : rn ≤ rc) (hra : StepsAt w ra rn) :
    Calls Tryz.prog 6 #[.slice ra rn rc] w fun e w' => e = .returned (.bool true) ∧ Below w.heap.size w w' := by
  unfold maxLen at hrn
  have hbg := hide (troubled_any w)
  go_enter Tryz.func6, Tryz.ntmps6
  go_wp2_with fail
  refine (unhide hbg).mono ?_
  rintro e w1 ⟨rfl, hb1⟩
  clear hbg
  have hfr := hide (run_fresh w1)
  go_wp2_with fail
  refine (unhide hfr).mono ?_
  rintro e w2 ⟨rb, wb, rfl, hK⟩
  have hK0 := Kt.lift hb1 hK
  clear hfr hK hb1
  go_wp2_with fail
  go_loopw [5] (fun i wr => ∃ (j : Nat) (s : St), j ≤ rn ∧ j ≤ 70 ∧ i = .int .i64 (j : Int) ∧ Kt (fun _ => none) w rb wb wr s) (fun i _ => 70 - (intOf i).toNat)
  case atStart => exact ⟨0, St.new 3, by omega, by omega, rfl, hK0⟩
  case round =>
    clear hK0
    obtain ⟨j, s, hj, hj70, rfl, hK⟩ := hrel
    by_cases hgo : j < rn ∧ j < 70
    · obtain ⟨hj1, hj2⟩ := hgo
      obtain ⟨g, o, K, A, B, C, rfl, m0, m1, m2, m3, iK, iA, iB, iC⟩ := hra.get hK j hj1
      have hst := hide (step_any hK K A B C iK iA iB iC)
      go_wp2_with fail
      refine (unhide hst).mono ?_
      rintro e w3 ⟨rfl, hK3⟩
      have hag := hide (agreed_any hK3)
      go_wp2_with fail
      refine (unhide hag).mono ?_
      rintro e w4 ⟨rfl, hK4⟩
      go_wp2
      exact ⟨⟨j + 1, _, by omega, by omega, by go_num, hK4⟩, by simp [intOf]; omega⟩
    · by_cases hjr : j < rn
      · have hj70' : ¬ (j : Int) < 70 := by omega
        clear hgo
        go_wp2
        go_ret
        exact ⟨rfl, hK.blw⟩
      · clear hgo
        go_wp2
        go_ret
        exact ⟨rfl, hK.blw⟩
end Go.Proofs.YtekbjlhbjcikdaaGreat
