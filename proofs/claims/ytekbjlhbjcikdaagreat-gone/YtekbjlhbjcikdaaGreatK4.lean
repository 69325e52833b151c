/-
  Walks of accordkeep's message and node.
-/
import Derived.Test.YtekbjlhbjcikdaaGreatK3
namespace Go.Proofs.YtekbjlhbjcikdaaGreat
open Go.RowKit Acc Go.MuLone

def inI (x : Int) : Prop := -9223372036854775808 ≤ x ∧ x ≤ 9223372036854775807

/-- A new beginning: what is new since w1 is nobody's. -/
theorem Kt.rebase {o : Nat → Option Unit} {w0 w1 W : World} {rb wb : Nat} {s : St} (h : Kt o w0 rb wb w1 s) (hb : Below w1.heap.size w1 W) :
    ∃ o', (∀ b, w1.heap.size ≤ b → o' b = none) ∧ Kt o' W rb wb W s ∧ ∀ w2 s', Kt o' W rb wb w2 s' → Kt o w0 rb wb w2 s' := by
  obtain ⟨L, K, rfl, rfl, hp, hE⟩ := h
  refine ⟨ownK L K, ?_, (hp.below hb).refl, fun w2 s' h2 => Kt.trans (hE.trans (Ext.of_below hb)) h2⟩
  intro b hbl
  refine ownK_none.2 ⟨?_, ?_⟩
  · unfold own2
    rw [if_neg (by have := hp.rep.wlt; omega)]
    exact hp.rep.rep.free hbl
  · cases ho : K.own b with
    | none => rfl
    | some t => have := hp.run.lt b t ho; omega

def msgStep (s : St) (k A : Int) : St :=
  if s.fly.length = 0 then s
  else if k < 7 then (s.deliverP (pickI A s.fly.length)).1
  else if k = 7 then (s.dropP (pickI A s.fly.length)).1
  else (s.doubleP (pickI A s.fly.length)).1
def nodeStep (s : St) (k A B : Int) : St :=
  if s.up (pickI A 4).toNat = true then
    if k = 10 then (s.crashP (pickI A 4)).1 else if k = 9 then (s.tickP (pickI A 4)).1 else if k = 11 then (s.fuseP (pickI A 4) (pickI B 9)).1 else s
  else if k = 10 then (s.recoverP (pickI A 4)).1 else s

set_option maxRecDepth 100000 in
set_option maxHeartbeats 1000000 in
theorem message_any {o : Nat → Option Unit} {w0 w1 : World} {rb wb : Nat} {s : St} (h : Kt o w0 rb wb w1 s) (k A : Int) (hA : inI A) :
    Calls Tryz.prog 42 #[.pointer (some ⟨rb, 0, none⟩), .int .i64 k, .int .i64 A] w1 fun e w' => e = .returned (.bool true) ∧ Kt o w0 rb wb w' (msgStep s k A) := by
  have r0 := h.cells.1
  have hfl := hide (flying_kt h)
  have h60 := h.ok.1.inv.fl
  go_enter Tryz.func42, Tryz.ntmps42
  go_wp2_with fail
  refine (unhide hfl).mono ?_
  rintro e w2 ⟨a, cap, rfl, h2⟩
  by_cases h0 : s.fly.length = 0
  · have hP : Hid (msgStep s k A = s) := by show _ = _; unfold msgStep; rw [if_pos h0]
    have q : ((s.fly.length : Int) == 0) = true := by rw [h0]; rfl
    clear h0
    go_wp2
    go_ret
    exact ⟨rfl, by rw [unhide hP]; exact h2⟩
  have q : ((s.fly.length : Int) == 0) = false := by rw [beq_eq_false_iff_ne]; omega
  have hpr := pickI_range A s.fly.length (by omega)
  have hpk := hide (fun w => pick_any A s.fly.length w (by omega) (by omega) hA.1 hA.2)
  obtain ⟨i, hi⟩ : ∃ i : Nat, pickI A s.fly.length = (i : Int) := ⟨(pickI A s.fly.length).toNat, by omega⟩
  have hil : i < s.fly.length := by omega
  have HI := hide hi
  have r2 := h2.cells.1
  clear hi
  by_cases h7 : k < 7
  · have hc : s.deliverP (pickI A s.fly.length) = ((s.deliverP (pickI A s.fly.length)).1, 0) := by unfold St.deliverP; rw [if_pos hpr]
    have hP : Hid (msgStep s k A = (s.deliverP (pickI A s.fly.length)).1) := by show _ = _; unfold msgStep; rw [if_neg h0, if_pos h7]
    have hdl := deliver_kt h2 (pickI A s.fly.length)
    have hz : (s.deliverP (pickI A s.fly.length)).2 = 0 := by rw [hc]
    rw [hz] at hdl
    have HDL := hide hdl
    clear hdl hz hc h0
    go_wp2_with fail
    refine (unhide hpk _).mono ?_
    rintro e w3 ⟨rfl, rfl⟩
    go_wp2_with fail
    refine (unhide HDL).mono ?_
    rintro e w4 ⟨rfl, h4⟩
    go_wp2
    go_ret
    exact ⟨rfl, by rw [unhide hP]; exact h4⟩
  by_cases h77 : k = 7
  · have hc : s.dropP (pickI A s.fly.length) = ((s.dropP (pickI A s.fly.length)).1, 0) := by unfold St.dropP; rw [if_pos hpr]
    have hP : Hid (msgStep s k A = (s.dropP (pickI A s.fly.length)).1) := by show _ = _; unfold msgStep; rw [if_neg h0, if_neg h7, if_pos h77]
    have q7 : (k == 7) = true := by rw [h77]; rfl
    have hdl := drop_kt h2 (pickI A s.fly.length)
    have hz : (s.dropP (pickI A s.fly.length)).2 = 0 := by rw [hc]
    rw [hz] at hdl
    have HDL := hide hdl
    clear hdl hz hc h0 h77
    go_wp2_with fail
    refine (unhide hpk _).mono ?_
    rintro e w3 ⟨rfl, rfl⟩
    go_wp2_with fail
    refine (unhide HDL).mono ?_
    rintro e w4 ⟨rfl, h4⟩
    go_wp2
    go_ret
    exact ⟨rfl, by rw [unhide hP]; exact h4⟩
  · have hc : s.doubleP (pickI A s.fly.length) = ((s.doubleP (pickI A s.fly.length)).1, 0) := by unfold St.doubleP; rw [if_pos hpr]
    have hP : Hid (msgStep s k A = (s.doubleP (pickI A s.fly.length)).1) := by show _ = _; unfold msgStep; rw [if_neg h0, if_neg h7, if_neg h77]
    have q7 : (k == 7) = false := by rw [beq_eq_false_iff_ne]; exact h77
    have hdl := double_kt h2 (pickI A s.fly.length)
    have hz : (s.doubleP (pickI A s.fly.length)).2 = 0 := by rw [hc]
    rw [hz] at hdl
    have HDL := hide hdl
    clear hdl hz hc h0 h77
    go_wp2_with fail
    refine (unhide hpk _).mono ?_
    rintro e w3 ⟨rfl, rfl⟩
    go_wp2_with fail
    refine (unhide HDL).mono ?_
    rintro e w4 ⟨rfl, h4⟩
    go_wp2
    go_ret
    exact ⟨rfl, by rw [unhide hP]; exact h4⟩

set_option maxRecDepth 100000 in
set_option maxHeartbeats 1000000 in
theorem node_true_9 {o : Nat → Option Unit} {w0 w1 : World} {rb wb : Nat} {s : St} (h : Kt o w0 rb wb w1 s) (K A B C : Int) (hA : inI A) (hB : inI B) (hu : s.up (pickI A 4).toNat = true) :
    Calls Tryz.prog 41 #[.pointer (some ⟨rb, 0, none⟩), .int .i64 9, .agg #[.int .i64 K, .int .i64 A, .int .i64 B, .int .i64 C]] w1 fun e w' => e = .returned (.bool true) ∧ Kt o w0 rb wb w' (nodeStep s 9 A B) := by
  have hpr := pickI_range A 4 (by omega)
  have hpb := pickI_range B 9 (by omega)
  have hpk := fun w => pick_any A 4 w (by omega) (by omega) hA.1 hA.2
  have hpk2 := hide (fun w => pick_any B 9 w (by omega) (by omega) hB.1 hB.2)
  have hp3 := h.ok.2
  have hb1 := below_alloc w1 (Obj.cells #[.int .i64 K, .int .i64 A, .int .i64 B, .int .i64 C] 31)
  obtain ⟨o', hfree, h1, hback⟩ := h.rebase hb1
  have r0 := h1.cells.1
  obtain ⟨n, hn⟩ : ∃ n : Nat, pickI A 4 = (n : Int) := ⟨(pickI A 4).toNat, by omega⟩
  have hn3 : n ≤ 3 := by omega
  rw [hn] at hpk
  have HPK := hide hpk
  have hup := up_kt h1 (n : Int)
  have hu0 : s.upP n = (s.up n, 0) := by unfold St.upP; rw [if_pos (by rw [hp3]; omega)]; simp
  rw [hu0] at hup
  have hnt : (pickI A 4).toNat = n := by rw [hn]; simp
  have hbx : w1.heap.size < (w1.alloc (Obj.cells #[.int .i64 K, .int .i64 A, .int .i64 B, .int .i64 C] 31)).heap.size := by simp
  have hB2 : (w1.alloc (Obj.cells #[.int .i64 K, .int .i64 A, .int .i64 B, .int .i64 C] 31)).cell? ⟨w1.heap.size, 2, none⟩ = some (.int .i64 B) := by simp [go_sem]
  have hin : (0 : Int) ≤ (n : Int) ∧ (n : Int) ≤ s.parts := by rw [hp3]; omega
  rw [hnt] at hu
  rw [hu] at hup
  have HUP := hide hup
  have hE : s.nodeE n true = 0 := by unfold St.nodeE; rw [if_pos hin]; simp [hu]
  have hP : Hid (nodeStep s 9 A B = (s.tickP n).1) := by show _ = _; unfold nodeStep; rw [hnt, hu, hn]; simp
  have hz : (s.tickP n).2 = 0 := by unfold St.tickP; rw [if_pos hE]
  have HR := hide (And.intro hB2 (And.intro hbx hfree))
  have HIN := hide hin
  have HHB := hide hback
  clear hn hnt hu0 hpk hup hB2 hbx hfree hback hin hu hE
  go_enter Tryz.func41, Tryz.ntmps41
  go_wp2_with fail
  refine (unhide HPK _).mono ?_
  rintro e w2 ⟨rfl, rfl⟩
  go_wp2_with fail
  refine (unhide HUP).mono ?_
  rintro e w3 ⟨rfl, h3⟩
  have r3 := h3.cells.1
  have b3 := (World.cell?_of_block (a := ⟨w1.heap.size, 2, none⟩) (h3.keep (unhide HR).2.1 ((unhide HR).2.2 _ (Nat.le_refl _)))).trans (unhide HR).1
  have hcl := tick_kt h3 (n : Int)
  rw [hz] at hcl
  have HCL := hide hcl
  clear hcl hz
  go_wp2_with fail
  refine (unhide HCL).mono ?_
  rintro e w4 ⟨rfl, h4⟩
  go_wp2
  go_ret
  exact ⟨rfl, by rw [unhide hP]; exact unhide HHB _ _ h4⟩

set_option maxRecDepth 100000 in
set_option maxHeartbeats 1000000 in
theorem node_true_10 {o : Nat → Option Unit} {w0 w1 : World} {rb wb : Nat} {s : St} (h : Kt o w0 rb wb w1 s) (K A B C : Int) (hA : inI A) (hB : inI B) (hu : s.up (pickI A 4).toNat = true) :
    Calls Tryz.prog 41 #[.pointer (some ⟨rb, 0, none⟩), .int .i64 10, .agg #[.int .i64 K, .int .i64 A, .int .i64 B, .int .i64 C]] w1 fun e w' => e = .returned (.bool true) ∧ Kt o w0 rb wb w' (nodeStep s 10 A B) := by
  have hpr := pickI_range A 4 (by omega)
  have hpb := pickI_range B 9 (by omega)
  have hpk := fun w => pick_any A 4 w (by omega) (by omega) hA.1 hA.2
  have hpk2 := hide (fun w => pick_any B 9 w (by omega) (by omega) hB.1 hB.2)
  have hp3 := h.ok.2
  have hb1 := below_alloc w1 (Obj.cells #[.int .i64 K, .int .i64 A, .int .i64 B, .int .i64 C] 31)
  obtain ⟨o', hfree, h1, hback⟩ := h.rebase hb1
  have r0 := h1.cells.1
  obtain ⟨n, hn⟩ : ∃ n : Nat, pickI A 4 = (n : Int) := ⟨(pickI A 4).toNat, by omega⟩
  have hn3 : n ≤ 3 := by omega
  rw [hn] at hpk
  have HPK := hide hpk
  have hup := up_kt h1 (n : Int)
  have hu0 : s.upP n = (s.up n, 0) := by unfold St.upP; rw [if_pos (by rw [hp3]; omega)]; simp
  rw [hu0] at hup
  have hnt : (pickI A 4).toNat = n := by rw [hn]; simp
  have hbx : w1.heap.size < (w1.alloc (Obj.cells #[.int .i64 K, .int .i64 A, .int .i64 B, .int .i64 C] 31)).heap.size := by simp
  have hB2 : (w1.alloc (Obj.cells #[.int .i64 K, .int .i64 A, .int .i64 B, .int .i64 C] 31)).cell? ⟨w1.heap.size, 2, none⟩ = some (.int .i64 B) := by simp [go_sem]
  have hin : (0 : Int) ≤ (n : Int) ∧ (n : Int) ≤ s.parts := by rw [hp3]; omega
  rw [hnt] at hu
  rw [hu] at hup
  have HUP := hide hup
  have hE : s.nodeE n true = 0 := by unfold St.nodeE; rw [if_pos hin]; simp [hu]
  have hP : Hid (nodeStep s 10 A B = (s.crashP n).1) := by show _ = _; unfold nodeStep; rw [hnt, hu, hn]; simp
  have hz : (s.crashP n).2 = 0 := by unfold St.crashP; rw [if_pos hE]
  have HR := hide (And.intro hB2 (And.intro hbx hfree))
  have HIN := hide hin
  have HHB := hide hback
  clear hn hnt hu0 hpk hup hB2 hbx hfree hback hin hu hE
  go_enter Tryz.func41, Tryz.ntmps41
  go_wp2_with fail
  refine (unhide HPK _).mono ?_
  rintro e w2 ⟨rfl, rfl⟩
  go_wp2_with fail
  refine (unhide HUP).mono ?_
  rintro e w3 ⟨rfl, h3⟩
  have r3 := h3.cells.1
  have b3 := (World.cell?_of_block (a := ⟨w1.heap.size, 2, none⟩) (h3.keep (unhide HR).2.1 ((unhide HR).2.2 _ (Nat.le_refl _)))).trans (unhide HR).1
  have hcl := crash_kt h3 (n : Int)
  rw [hz] at hcl
  have HCL := hide hcl
  clear hcl hz
  go_wp2_with fail
  refine (unhide HCL).mono ?_
  rintro e w4 ⟨rfl, h4⟩
  go_wp2
  go_ret
  exact ⟨rfl, by rw [unhide hP]; exact unhide HHB _ _ h4⟩

set_option maxRecDepth 100000 in
set_option maxHeartbeats 1000000 in
theorem node_true_11 {o : Nat → Option Unit} {w0 w1 : World} {rb wb : Nat} {s : St} (h : Kt o w0 rb wb w1 s) (K A B C : Int) (hA : inI A) (hB : inI B) (hu : s.up (pickI A 4).toNat = true) :
    Calls Tryz.prog 41 #[.pointer (some ⟨rb, 0, none⟩), .int .i64 11, .agg #[.int .i64 K, .int .i64 A, .int .i64 B, .int .i64 C]] w1 fun e w' => e = .returned (.bool true) ∧ Kt o w0 rb wb w' (nodeStep s 11 A B) := by
  have hpr := pickI_range A 4 (by omega)
  have hpb := pickI_range B 9 (by omega)
  have hpk := fun w => pick_any A 4 w (by omega) (by omega) hA.1 hA.2
  have hpk2 := hide (fun w => pick_any B 9 w (by omega) (by omega) hB.1 hB.2)
  have hp3 := h.ok.2
  have hb1 := below_alloc w1 (Obj.cells #[.int .i64 K, .int .i64 A, .int .i64 B, .int .i64 C] 31)
  obtain ⟨o', hfree, h1, hback⟩ := h.rebase hb1
  have r0 := h1.cells.1
  obtain ⟨n, hn⟩ : ∃ n : Nat, pickI A 4 = (n : Int) := ⟨(pickI A 4).toNat, by omega⟩
  have hn3 : n ≤ 3 := by omega
  rw [hn] at hpk
  have HPK := hide hpk
  have hup := up_kt h1 (n : Int)
  have hu0 : s.upP n = (s.up n, 0) := by unfold St.upP; rw [if_pos (by rw [hp3]; omega)]; simp
  rw [hu0] at hup
  have hnt : (pickI A 4).toNat = n := by rw [hn]; simp
  have hbx : w1.heap.size < (w1.alloc (Obj.cells #[.int .i64 K, .int .i64 A, .int .i64 B, .int .i64 C] 31)).heap.size := by simp
  have hB2 : (w1.alloc (Obj.cells #[.int .i64 K, .int .i64 A, .int .i64 B, .int .i64 C] 31)).cell? ⟨w1.heap.size, 2, none⟩ = some (.int .i64 B) := by simp [go_sem]
  have hin : (0 : Int) ≤ (n : Int) ∧ (n : Int) ≤ s.parts := by rw [hp3]; omega
  rw [hnt] at hu
  rw [hu] at hup
  have HUP := hide hup
  have hE : s.nodeE n true = 0 := by unfold St.nodeE; rw [if_pos hin]; simp [hu]
  have hP : Hid (nodeStep s 11 A B = (s.fuseP n (pickI B 9)).1) := by show _ = _; unfold nodeStep; rw [hnt, hu, hn]; simp
  have hz : (s.fuseP n (pickI B 9)).2 = 0 := by unfold St.fuseP; rw [if_pos hE, if_pos (by omega)]
  have HR := hide (And.intro hB2 (And.intro hbx hfree))
  have HIN := hide hin
  have HHB := hide hback
  clear hn hnt hu0 hpk hup hB2 hbx hfree hback hin hu hE
  go_enter Tryz.func41, Tryz.ntmps41
  go_wp2_with fail
  refine (unhide HPK _).mono ?_
  rintro e w2 ⟨rfl, rfl⟩
  go_wp2_with fail
  refine (unhide HUP).mono ?_
  rintro e w3 ⟨rfl, h3⟩
  have r3 := h3.cells.1
  have b3 := (World.cell?_of_block (a := ⟨w1.heap.size, 2, none⟩) (h3.keep (unhide HR).2.1 ((unhide HR).2.2 _ (Nat.le_refl _)))).trans (unhide HR).1
  have hcl := fuse_kt h3.drew (n : Int) (pickI B 9) (by omega)
  rw [hz] at hcl
  have HCL := hide hcl
  clear hcl hz
  go_wp2_with fail
  go_region_held3 (fun w' => w'.cell? ⟨rb, 0, none⟩ = some (.pointer (some ⟨wb, 0, none⟩)) ∧ w'.cell? ⟨w1.heap.size, 2, none⟩ = some (.int .i64 B)) (go_keep)
    (first
      | (go_at_call 31; refine (unhide hpk2 _).mono ?_; rintro e w5 ⟨rfl, rfl⟩)
      | (go_at_call 39; refine (unhide HCL).mono ?_; rintro e w4 ⟨rfl, h4⟩; have r4 := h4.cells.1; have b4 := (World.cell?_of_block (a := ⟨w1.heap.size, 2, none⟩) (h4.keep (unhide HR).2.1 ((unhide HR).2.2 _ (Nat.le_refl _)))).trans (unhide HR).1))
  go_wp2
  go_ret
  exact ⟨rfl, by rw [unhide hP]; exact unhide HHB _ _ h4⟩

set_option maxRecDepth 100000 in
set_option maxHeartbeats 1000000 in
theorem node_false_9 {o : Nat → Option Unit} {w0 w1 : World} {rb wb : Nat} {s : St} (h : Kt o w0 rb wb w1 s) (K A B C : Int) (hA : inI A) (hB : inI B) (hu : s.up (pickI A 4).toNat = false) :
    Calls Tryz.prog 41 #[.pointer (some ⟨rb, 0, none⟩), .int .i64 9, .agg #[.int .i64 K, .int .i64 A, .int .i64 B, .int .i64 C]] w1 fun e w' => e = .returned (.bool true) ∧ Kt o w0 rb wb w' (nodeStep s 9 A B) := by
  have hpr := pickI_range A 4 (by omega)
  have hpb := pickI_range B 9 (by omega)
  have hpk := fun w => pick_any A 4 w (by omega) (by omega) hA.1 hA.2
  have hpk2 := hide (fun w => pick_any B 9 w (by omega) (by omega) hB.1 hB.2)
  have hp3 := h.ok.2
  have hb1 := below_alloc w1 (Obj.cells #[.int .i64 K, .int .i64 A, .int .i64 B, .int .i64 C] 31)
  obtain ⟨o', hfree, h1, hback⟩ := h.rebase hb1
  have r0 := h1.cells.1
  obtain ⟨n, hn⟩ : ∃ n : Nat, pickI A 4 = (n : Int) := ⟨(pickI A 4).toNat, by omega⟩
  have hn3 : n ≤ 3 := by omega
  rw [hn] at hpk
  have HPK := hide hpk
  have hup := up_kt h1 (n : Int)
  have hu0 : s.upP n = (s.up n, 0) := by unfold St.upP; rw [if_pos (by rw [hp3]; omega)]; simp
  rw [hu0] at hup
  have hnt : (pickI A 4).toNat = n := by rw [hn]; simp
  have hbx : w1.heap.size < (w1.alloc (Obj.cells #[.int .i64 K, .int .i64 A, .int .i64 B, .int .i64 C] 31)).heap.size := by simp
  have hB2 : (w1.alloc (Obj.cells #[.int .i64 K, .int .i64 A, .int .i64 B, .int .i64 C] 31)).cell? ⟨w1.heap.size, 2, none⟩ = some (.int .i64 B) := by simp [go_sem]
  have hin : (0 : Int) ≤ (n : Int) ∧ (n : Int) ≤ s.parts := by rw [hp3]; omega
  rw [hnt] at hu
  rw [hu] at hup
  have HUP := hide hup
  have hE : s.nodeE n false = 0 := by unfold St.nodeE; rw [if_pos hin]; simp [hu]
  have hP : Hid (nodeStep s 9 A B = s) := by show _ = _; unfold nodeStep; rw [hnt, hu, hn]; simp
  have HR := hide (And.intro hB2 (And.intro hbx hfree))
  have HIN := hide hin
  have HHB := hide hback
  clear hn hnt hu0 hpk hup hB2 hbx hfree hback hin hu hE
  go_enter Tryz.func41, Tryz.ntmps41
  go_wp2_with fail
  refine (unhide HPK _).mono ?_
  rintro e w2 ⟨rfl, rfl⟩
  go_wp2_with fail
  refine (unhide HUP).mono ?_
  rintro e w3 ⟨rfl, h3⟩
  have r3 := h3.cells.1
  have b3 := (World.cell?_of_block (a := ⟨w1.heap.size, 2, none⟩) (h3.keep (unhide HR).2.1 ((unhide HR).2.2 _ (Nat.le_refl _)))).trans (unhide HR).1
  go_wp2
  go_ret
  exact ⟨rfl, by rw [unhide hP]; exact unhide HHB _ _ h3⟩

set_option maxRecDepth 100000 in
set_option maxHeartbeats 1000000 in
theorem node_false_10 {o : Nat → Option Unit} {w0 w1 : World} {rb wb : Nat} {s : St} (h : Kt o w0 rb wb w1 s) (K A B C : Int) (hA : inI A) (hB : inI B) (hu : s.up (pickI A 4).toNat = false) :
    Calls Tryz.prog 41 #[.pointer (some ⟨rb, 0, none⟩), .int .i64 10, .agg #[.int .i64 K, .int .i64 A, .int .i64 B, .int .i64 C]] w1 fun e w' => e = .returned (.bool true) ∧ Kt o w0 rb wb w' (nodeStep s 10 A B) := by
  have hpr := pickI_range A 4 (by omega)
  have hpb := pickI_range B 9 (by omega)
  have hpk := fun w => pick_any A 4 w (by omega) (by omega) hA.1 hA.2
  have hpk2 := hide (fun w => pick_any B 9 w (by omega) (by omega) hB.1 hB.2)
  have hp3 := h.ok.2
  have hb1 := below_alloc w1 (Obj.cells #[.int .i64 K, .int .i64 A, .int .i64 B, .int .i64 C] 31)
  obtain ⟨o', hfree, h1, hback⟩ := h.rebase hb1
  have r0 := h1.cells.1
  obtain ⟨n, hn⟩ : ∃ n : Nat, pickI A 4 = (n : Int) := ⟨(pickI A 4).toNat, by omega⟩
  have hn3 : n ≤ 3 := by omega
  rw [hn] at hpk
  have HPK := hide hpk
  have hup := up_kt h1 (n : Int)
  have hu0 : s.upP n = (s.up n, 0) := by unfold St.upP; rw [if_pos (by rw [hp3]; omega)]; simp
  rw [hu0] at hup
  have hnt : (pickI A 4).toNat = n := by rw [hn]; simp
  have hbx : w1.heap.size < (w1.alloc (Obj.cells #[.int .i64 K, .int .i64 A, .int .i64 B, .int .i64 C] 31)).heap.size := by simp
  have hB2 : (w1.alloc (Obj.cells #[.int .i64 K, .int .i64 A, .int .i64 B, .int .i64 C] 31)).cell? ⟨w1.heap.size, 2, none⟩ = some (.int .i64 B) := by simp [go_sem]
  have hin : (0 : Int) ≤ (n : Int) ∧ (n : Int) ≤ s.parts := by rw [hp3]; omega
  rw [hnt] at hu
  rw [hu] at hup
  have HUP := hide hup
  have hE : s.nodeE n false = 0 := by unfold St.nodeE; rw [if_pos hin]; simp [hu]
  have hP : Hid (nodeStep s 10 A B = (s.recoverP n).1) := by show _ = _; unfold nodeStep; rw [hnt, hu, hn]; simp
  have hz : (s.recoverP n).2 = 0 := by unfold St.recoverP; rw [if_pos hE]
  have HR := hide (And.intro hB2 (And.intro hbx hfree))
  have HIN := hide hin
  have HHB := hide hback
  clear hn hnt hu0 hpk hup hB2 hbx hfree hback hin hu hE
  go_enter Tryz.func41, Tryz.ntmps41
  go_wp2_with fail
  refine (unhide HPK _).mono ?_
  rintro e w2 ⟨rfl, rfl⟩
  go_wp2_with fail
  refine (unhide HUP).mono ?_
  rintro e w3 ⟨rfl, h3⟩
  have r3 := h3.cells.1
  have b3 := (World.cell?_of_block (a := ⟨w1.heap.size, 2, none⟩) (h3.keep (unhide HR).2.1 ((unhide HR).2.2 _ (Nat.le_refl _)))).trans (unhide HR).1
  have hcl := recover_kt h3 (n : Int)
  rw [hz] at hcl
  have HCL := hide hcl
  clear hcl hz
  go_wp2_with fail
  refine (unhide HCL).mono ?_
  rintro e w4 ⟨rfl, h4⟩
  go_wp2
  go_ret
  exact ⟨rfl, by rw [unhide hP]; exact unhide HHB _ _ h4⟩

set_option maxRecDepth 100000 in
set_option maxHeartbeats 1000000 in
theorem node_false_11 {o : Nat → Option Unit} {w0 w1 : World} {rb wb : Nat} {s : St} (h : Kt o w0 rb wb w1 s) (K A B C : Int) (hA : inI A) (hB : inI B) (hu : s.up (pickI A 4).toNat = false) :
    Calls Tryz.prog 41 #[.pointer (some ⟨rb, 0, none⟩), .int .i64 11, .agg #[.int .i64 K, .int .i64 A, .int .i64 B, .int .i64 C]] w1 fun e w' => e = .returned (.bool true) ∧ Kt o w0 rb wb w' (nodeStep s 11 A B) := by
  have hpr := pickI_range A 4 (by omega)
  have hpb := pickI_range B 9 (by omega)
  have hpk := fun w => pick_any A 4 w (by omega) (by omega) hA.1 hA.2
  have hpk2 := hide (fun w => pick_any B 9 w (by omega) (by omega) hB.1 hB.2)
  have hp3 := h.ok.2
  have hb1 := below_alloc w1 (Obj.cells #[.int .i64 K, .int .i64 A, .int .i64 B, .int .i64 C] 31)
  obtain ⟨o', hfree, h1, hback⟩ := h.rebase hb1
  have r0 := h1.cells.1
  obtain ⟨n, hn⟩ : ∃ n : Nat, pickI A 4 = (n : Int) := ⟨(pickI A 4).toNat, by omega⟩
  have hn3 : n ≤ 3 := by omega
  rw [hn] at hpk
  have HPK := hide hpk
  have hup := up_kt h1 (n : Int)
  have hu0 : s.upP n = (s.up n, 0) := by unfold St.upP; rw [if_pos (by rw [hp3]; omega)]; simp
  rw [hu0] at hup
  have hnt : (pickI A 4).toNat = n := by rw [hn]; simp
  have hbx : w1.heap.size < (w1.alloc (Obj.cells #[.int .i64 K, .int .i64 A, .int .i64 B, .int .i64 C] 31)).heap.size := by simp
  have hB2 : (w1.alloc (Obj.cells #[.int .i64 K, .int .i64 A, .int .i64 B, .int .i64 C] 31)).cell? ⟨w1.heap.size, 2, none⟩ = some (.int .i64 B) := by simp [go_sem]
  have hin : (0 : Int) ≤ (n : Int) ∧ (n : Int) ≤ s.parts := by rw [hp3]; omega
  rw [hnt] at hu
  rw [hu] at hup
  have HUP := hide hup
  have hE : s.nodeE n false = 0 := by unfold St.nodeE; rw [if_pos hin]; simp [hu]
  have hP : Hid (nodeStep s 11 A B = s) := by show _ = _; unfold nodeStep; rw [hnt, hu, hn]; simp
  have HR := hide (And.intro hB2 (And.intro hbx hfree))
  have HIN := hide hin
  have HHB := hide hback
  clear hn hnt hu0 hpk hup hB2 hbx hfree hback hin hu hE
  go_enter Tryz.func41, Tryz.ntmps41
  go_wp2_with fail
  refine (unhide HPK _).mono ?_
  rintro e w2 ⟨rfl, rfl⟩
  go_wp2_with fail
  refine (unhide HUP).mono ?_
  rintro e w3 ⟨rfl, h3⟩
  have r3 := h3.cells.1
  have b3 := (World.cell?_of_block (a := ⟨w1.heap.size, 2, none⟩) (h3.keep (unhide HR).2.1 ((unhide HR).2.2 _ (Nat.le_refl _)))).trans (unhide HR).1
  go_wp2
  go_ret
  exact ⟨rfl, by rw [unhide hP]; exact unhide HHB _ _ h3⟩

theorem node_any {o : Nat → Option Unit} {w0 w1 : World} {rb wb : Nat} {s : St} (h : Kt o w0 rb wb w1 s) (k K A B C : Int) (hA : inI A) (hB : inI B) (hk : k = 9 ∨ k = 10 ∨ k = 11) :
    Calls Tryz.prog 41 #[.pointer (some ⟨rb, 0, none⟩), .int .i64 k, .agg #[.int .i64 K, .int .i64 A, .int .i64 B, .int .i64 C]] w1 fun e w' => e = .returned (.bool true) ∧ Kt o w0 rb wb w' (nodeStep s k A B) := by
  cases hu : s.up (pickI A 4).toNat with
  | true =>
    rcases hk with rfl | rfl | rfl
    · exact node_true_9 h K A B C hA hB hu
    · exact node_true_10 h K A B C hA hB hu
    · exact node_true_11 h K A B C hA hB hu
  | false =>
    rcases hk with rfl | rfl | rfl
    · exact node_false_9 h K A B C hA hB hu
    · exact node_false_10 h K A B C hA hB hu
    · exact node_false_11 h K A B C hA hB hu

end Go.Proofs.YtekbjlhbjcikdaaGreat
