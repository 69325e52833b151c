/-
  Walk of accordkeep's troubled; what stands at the head of its statements.
-/
import Derived.Test.YtekbjlhbjcikdaaGreatK7
namespace Go.Proofs.YtekbjlhbjcikdaaGreat
open Go.RowKit Acc Go.MuLone

theorem At.act {w w1 : World} {wb : Nat} {s s' : St} {f : Nat} {args : Nat → Array Value} {e0 : Ending} (h : At w w1 wb s)
    (c : ∀ L, RepW w1 L s → Calls Tryz.prog f (args L.wb) w1 fun e w' => e = e0 ∧ LeavesW L w1 s' w') : Calls Tryz.prog f (args wb) w1 fun e w' => e = e0 ∧ At w w' wb s' := by
  obtain ⟨L, rfl, hR, hF, hB⟩ := h
  refine (c L hR).mono ?_
  rintro e w2 ⟨rfl, hl⟩
  exact ⟨rfl, At.step hF hB hl⟩

def wsT : List Wr := [⟨1, 0, 1⟩, ⟨2, 0, 1⟩]
def sT1 : St := ((St.new 2).fuseP 0 2).1
def sT2 : St := (sT1.beginP wsT).1
def sT3 : St := (sT2.recoverP 0).1
theorem sT_f : ((St.new 2).fuseP 0 2).2 = 0 := by decide +kernel
theorem sT_b : (sT1.beginP wsT).2 = (1, 0) := by decide +kernel
theorem sT_u : sT2.upP 0 = (false, 0) := by decide +kernel
theorem sT_l2 : sT2.fly.length = 1 := by decide +kernel
theorem sT_r : (sT2.recoverP 0).2 = 0 := by decide +kernel
theorem sT_s : sT3.stateP 0 1 = (4, 0) := by decide +kernel
theorem sT_l3 : sT3.fly.length = 3 := by decide +kernel
theorem sT_ok1 : Ok sT1 := (Ok.new 2 (by omega) (by omega)).fuseP 0 2 (by omega)
theorem sT_ok2 : Ok sT2 := sT_ok1.beginP wsT
theorem sT_ok3 : Ok sT3 := sT_ok2.recoverP 0

theorem wsT_at (w : World) : WrAt (w.alloc (Obj.cells #[.int .i64 1, .int .i64 0, .int .i64 1, .int .i64 2, .int .i64 0, .int .i64 1] 74)) (some ⟨w.heap.size, 0, none⟩) wsT := by
  refine .inr ⟨w.heap.size, 0, rfl, by simp, ?_⟩
  intro i x hx
  match i, hx with
  | 0, hx => simp [wsT] at hx; subst hx; simp [go_sem]
  | 1, hx => simp [wsT] at hx; subst hx; simp [go_sem]
  | n + 2, hx => simp [wsT] at hx

set_option maxRecDepth 100000 in
set_option maxHeartbeats 4000000 in
theorem troubled_any (w : World) : Calls Tryz.prog 14 #[] w fun e w' => e = .returned (.bool true) ∧ Below w.heap.size w w' := by
  have hbg := hide (begun_any w)
  go_enter Tryz.func14, Tryz.ntmps14
  go_wp2_with fail
  refine (unhide hbg).mono ?_
  rintro e w1 ⟨rfl, hb1⟩
  have hn := hide (new_any w1 2 (by omega) (by omega))
  clear hbg
  go_wp2_with fail
  refine (unhide hn).mono ?_
  rintro e w2 ⟨L, rfl, hR, hb2, hown⟩
  have hA : At w w2 L.wb (St.new 2) := ⟨L, rfl, hR, fun b hb => Fresh.of hown b (Nat.lt_of_lt_of_le hb hb1.size), hb1.more hb2⟩
  generalize L.wb = wb at *
  have hfu := hA.act (args := fun b => #[.pointer (some ⟨b, 0, none⟩), .int .i64 0, .int .i64 2]) fun L hR => fuse_any hR (Ok.new 2 (by omega) (by omega)) 0 2
  rw [sT_f] at hfu
  have HFU := hide hfu
  clear hn hR hb1 hb2 hown hfu hA
  go_wp2_with fail
  refine (unhide HFU).mono ?_
  rintro e w3 ⟨rfl, hA3⟩
  have hA3 : At w w3 wb sT1 := hA3
  have hA4 := hA3.below (below_alloc w3 (Obj.cells #[.int .i64 1, .int .i64 0, .int .i64 1, .int .i64 2, .int .i64 0, .int .i64 1] 74))
  have hwb3 : wb < w3.heap.size := by obtain ⟨L3, rfl, hR3, _⟩ := hA3; exact hR3.wlt
  have hbe := hA4.act (args := fun b => #[.pointer (some ⟨b, 0, none⟩), .slice (some ⟨w3.heap.size, 0, none⟩) 2 2]) (s' := (sT1.beginP wsT).1) (e0 := .returned (.tuple #[.int .i64 ((sT1.beginP wsT).2.1 : Nat), .int .i64 ((sT1.beginP wsT).2.2 : Nat)])) fun L hR => by
    have hd : L.wb ≠ w3.heap.size ∨ L.wb = w3.heap.size := by omega
    rcases hd with hd | hd
    · exact begin_any hR sT_ok1 (some ⟨w3.heap.size, 0, none⟩) 2 2 wsT rfl (by unfold maxLen; omega) (by omega) (wsT_at w3) (by intro ad h; injection h with h; subst h; exact fun e => hd e.symm)
    · exfalso
      have := hR.l0
      rw [hd] at this
      simp [go_sem] at this
  rw [sT_b] at hbe
  have HBE := hide hbe
  clear hbe HFU hA3 hA4
  go_wp2_with fail
  refine (unhide HBE).mono ?_
  rintro e w5 ⟨rfl, hA5⟩
  have hA5 : At w w5 wb sT2 := hA5
  have hup := hA5.act (args := fun b => #[.pointer (some ⟨b, 0, none⟩), .int .i64 0]) (s' := sT2) fun L hR => (up_any hR sT_ok2 0).mono fun _ _ hh => ⟨hh.1, hh.2.leaves⟩
  rw [sT_u] at hup
  have HUP := hide hup
  clear hup HBE hwb3
  go_wp2_with fail
  refine (unhide HUP).mono ?_
  rintro e w6 ⟨rfl, hA6⟩
  have hfl := flying_at hA6 sT_ok2
  rw [sT_l2] at hfl
  have HFL := hide hfl
  clear hfl HUP hA5
  go_wp2_with fail
  refine (unhide HFL).mono ?_
  rintro e w7 ⟨a7, c7, rfl, hA7⟩
  have hre := hA7.act (args := fun b => #[.pointer (some ⟨b, 0, none⟩), .int .i64 0]) fun L hR => recover_any hR sT_ok2 0
  rw [sT_r] at hre
  have HRE := hide hre
  clear hre HFL hA6
  go_wp2_with fail
  refine (unhide HRE).mono ?_
  rintro e w8 ⟨rfl, hA8⟩
  have hA8 : At w w8 wb sT3 := hA8
  have hst := hA8.act (args := fun b => #[.pointer (some ⟨b, 0, none⟩), .int .i64 0, .int .i64 1]) (s' := sT3) fun L hR => (state_any hR sT_ok3 0 1).mono fun _ _ hh => ⟨hh.1, hh.2.leaves⟩
  rw [sT_s] at hst
  have HST := hide hst
  clear hst HRE hA7
  go_wp2_with fail
  refine (unhide HST).mono ?_
  rintro e w9 ⟨rfl, hA9⟩
  have hfl := flying_at hA9 sT_ok3
  rw [sT_l3] at hfl
  have HFL := hide hfl
  clear hfl HST hA8
  go_wp2_with fail
  refine (unhide HFL).mono ?_
  rintro e w10 ⟨a10, c10, rfl, hA10⟩
  go_wp2
  go_ret
  obtain ⟨_, _, _, _, hbf⟩ := hA10
  exact ⟨rfl, hbf⟩

/-- A fresh run. -/
theorem run_fresh (w : World) :
    Calls Tryz.prog 15 #[] w fun e w' => ∃ rb wb, e = .returned (.pointer (some ⟨rb, 0, none⟩)) ∧ Kt (fun _ => none) w rb wb w' (St.new 3) := by
  refine (fresh_any w).mono ?_
  rintro e w1 ⟨L, rb, rfl, hR, hb, hF, hrb, hro, c0, c1, cf⟩
  refine ⟨rb, L.wb, rfl, L, ⟨rb, ⟨none, 0, 0⟩, fun _ => ⟨none, 0, 0⟩, fun b => if b = rb then some .run else none⟩, rfl, rfl, ⟨hR, ?_, ?_, Ok.new 3 (by omega) (by omega), rfl⟩, ?_⟩
  · refine ⟨c0, c1, cf, World.ownsRow_nil _ _ _ _, ?_, ?_, ?_, ?_, ?_⟩
    · intro i hi; simp [St.new] at hi
    · simp
    · intro a ha; cases ha
    · intro i hi; simp [St.new] at hi
    · intro b t hbt
      simp only at hbt
      split at hbt
      · rename_i e; rw [e]; exact World.block_lt_of_cell? w1 _ c0
      · cases hbt
  · intro b t hbt
    simp only at hbt
    split at hbt
    · rename_i e; rw [e]; exact hro
    · cases hbt
  · refine ⟨hb.os, hb.tape, hb.output, hb.size, ?_⟩
    intro b hlt _
    refine ⟨hb.block b hlt, ownK_none.2 ⟨hF b hlt, ?_⟩⟩
    simp only
    rw [if_neg (by omega)]
theorem Kt.blw {w w' : World} {rb wb : Nat} {s : St} (h : Kt (fun _ => none) w rb wb w' s) : Below w.heap.size w w' := by
  obtain ⟨L, K, _, _, _, hE⟩ := h
  exact ⟨hE.os, hE.tape, hE.output, hE.size, fun b hb => (hE.keep b hb rfl).1⟩
theorem Kt.lift {w w1 w' : World} {rb wb : Nat} {s : St} (hb : Below w.heap.size w w1) (h : Kt (fun _ => none) w1 rb wb w' s) : Kt (fun _ => none) w rb wb w' s := by
  obtain ⟨L, K, a, b, c, hE⟩ := h
  exact ⟨L, K, a, b, c, (Ext.of_below (o := fun _ => none) hb).trans hE⟩

end Go.Proofs.YtekbjlhbjcikdaaGreat
