/-
  Walks of the face's calls: Fuse, Up, Flying, Log, State, Value, Holder.
-/
import Derived.Test.YtekbjlhbjcikdaaGreatW23
namespace Go.Proofs.YtekbjlhbjcikdaaGreat
open Go.RowKit Acc Go.MuLone

set_option maxRecDepth 100000 in
set_option maxHeartbeats 1000000 in
theorem fuse_any {w : World} {L : Lay} {s : St} (h : RepW w L s) (hk : Ok s) (i a : Int) :
    Calls Tryz.prog 39 #[.pointer (some ⟨L.wb, 0, none⟩), .int .i64 i, .int .i64 a] w fun e w' => e = .returned (.int .i64 ((s.fuseP i a).2 : Nat)) ∧ LeavesW L w (s.fuseP i a).1 w' := by
  have l0 := h.l0
  have lf := h.lf
  have l2 := h.l2
  have hR1 := h.locked (.int .i32 1)
  have l2' : (w.setCell ⟨L.wb, 0, none⟩ (.int .i32 1)).cell? ⟨L.wb, 2, none⟩ = some (.pointer (some ⟨L.nb, 0, none⟩)) := (World.cell?_setCell_other _ _ _ _ (by simp)).trans h.l2
  have hrf := refuse_any hR1 l2' hk.inv.wf i true
  rcases nodeE_cases s i true with ⟨h0, hi0, hi1, _⟩ | h0
  · rw [h0] at hrf
    have HRF := hide hrf
    obtain ⟨j, rfl⟩ : ∃ j : Nat, i = j := ⟨i.toNat, by omega⟩
    have hj : j ≤ s.parts := by omega
    by_cases ha : a < 0
    · have hP : Hid (s.fuseP j a = (s, 1)) := by show _ = _; unfold St.fuseP; rw [if_pos h0, if_neg (by omega)]
      clear h0 hrf
      go_enter_defers Tryz.func39, Tryz.ntmps39
      go_wp2_with (first
        | (go_at_call 45; refine (lock_free Tryz.muLib ⟨L.wb, 0, none⟩ _ l0 lf).mono ?_; rintro e w' ⟨rfl, rfl⟩)
        | (go_at_call 73; refine (unhide HRF).mono ?_; rintro e w2 ⟨rfl, rfl⟩))
      obtain ⟨k0, k2, kf, hLW⟩ := h.unlocked (Leaves.same hR1 (Below.refl _ _))
      refine leaves_cons (f := 46) (args := #[.pointer (some ⟨L.wb, 0, none⟩)]) (by simp) (by simp [go_sem]) ?_
      refine (unlock_deferred Tryz.muLib ⟨L.wb, 0, none⟩ .returning _ k0 kf).mono ?_
      rintro e u' w'' ⟨rfl, rfl, rfl⟩
      exact ⟨_, results_tmp rfl _ _ _, by rw [unhide hP]; rfl, by rw [unhide hP]; exact hLW⟩
    · obtain ⟨k, rfl⟩ : ∃ k : Nat, a = k := ⟨a.toNat, by omega⟩
      have hP : Hid (s.fuseP j k = (s.fused j k, 0)) := by show _ = _; unfold St.fuseP; rw [if_pos h0, if_pos (by omega)]; simp
      have hfu := hide (nodesFuse_any hR1 hk.inv.p5 j k hj)
      clear h0 hrf
      go_enter_defers Tryz.func39, Tryz.ntmps39
      go_wp2_with (first
        | (go_at_call 45; refine (lock_free Tryz.muLib ⟨L.wb, 0, none⟩ _ l0 lf).mono ?_; rintro e w' ⟨rfl, rfl⟩)
        | (go_at_call 73; refine (unhide HRF).mono ?_; rintro e w2 ⟨rfl, rfl⟩)
        | (go_at_call 74; refine (unhide hfu).mono ?_; rintro e w2 ⟨rfl, hl⟩))
      obtain ⟨k0, k2, kf, hLW⟩ := h.unlocked hl
      refine leaves_cons (f := 46) (args := #[.pointer (some ⟨L.wb, 0, none⟩)]) (by simp) (by simp [go_sem]) ?_
      refine (unlock_deferred Tryz.muLib ⟨L.wb, 0, none⟩ .returning _ k0 kf).mono ?_
      rintro e u' w'' ⟨rfl, rfl, rfl⟩
      exact ⟨_, results_tmp rfl _ _ _, by rw [unhide hP]; rfl, by rw [unhide hP]; exact hLW⟩
  · have hP : Hid (s.fuseP i a = (s, s.nodeE i true)) := by show _ = _; unfold St.fuseP; rw [if_neg (by omega)]
    have HRF := hide hrf
    have hk0 : ((s.nodeE i true : Int) != 0) = true := by rw [bne_iff_ne]; omega
    clear h0 hrf
    go_enter_defers Tryz.func39, Tryz.ntmps39
    go_wp2_with (first
      | (go_at_call 45; refine (lock_free Tryz.muLib ⟨L.wb, 0, none⟩ _ l0 lf).mono ?_; rintro e w' ⟨rfl, rfl⟩)
      | (go_at_call 73; refine (unhide HRF).mono ?_; rintro e w2 ⟨rfl, rfl⟩))
    obtain ⟨k0, k2, kf, hLW⟩ := h.unlocked (Leaves.same hR1 (Below.refl _ _))
    refine leaves_cons (f := 46) (args := #[.pointer (some ⟨L.wb, 0, none⟩)]) (by simp) (by simp [go_sem]) ?_
    refine (unlock_deferred Tryz.muLib ⟨L.wb, 0, none⟩ .returning _ k0 kf).mono ?_
    rintro e u' w'' ⟨rfl, rfl, rfl⟩
    exact ⟨_, results_tmp rfl _ _ _, by rw [unhide hP]; rfl, by rw [unhide hP]; exact hLW⟩

set_option maxRecDepth 100000 in
set_option maxHeartbeats 1000000 in
theorem up_any {w : World} {L : Lay} {s : St} (h : RepW w L s) (hk : Ok s) (i : Int) :
    Calls Tryz.prog 22 #[.pointer (some ⟨L.wb, 0, none⟩), .int .i64 i] w fun e w' => e = .returned (.tuple #[.bool (s.upP i).1, .int .i64 ((s.upP i).2 : Nat)]) ∧ ReadsW L w s w' := by
  have l0 := h.l0
  have lf := h.lf
  have l2 := h.l2
  have hR1 := h.locked (.int .i32 1)
  have l2' : (w.setCell ⟨L.wb, 0, none⟩ (.int .i32 1)).cell? ⟨L.wb, 2, none⟩ = some (.pointer (some ⟨L.nb, 0, none⟩)) := (World.cell?_setCell_other _ _ _ _ (by simp)).trans h.l2
  have hha := hide (nodesHas_any hR1 hk.inv.wf i)
  by_cases h0 : 0 ≤ i ∧ i ≤ s.parts
  · obtain ⟨j, rfl⟩ : ∃ j : Nat, i = j := ⟨i.toNat, by omega⟩
    have hd : Hid ((decide (0 ≤ (j : Int)) && decide ((j : Int) < s.parts + 1)) = true) := by show _ = _; simp; omega
    have hP : Hid (s.upP j = (s.up j, 0)) := by show _ = _; unfold St.upP; rw [if_pos h0]; simp
    have hup := hide (nodesUp_any hR1 hk.inv.p5 j (by omega))
    clear h0
    go_enter_defers Tryz.func22, Tryz.ntmps22
    go_wp2_with (first
      | (go_at_call 45; refine (lock_free Tryz.muLib ⟨L.wb, 0, none⟩ _ l0 lf).mono ?_; rintro e w' ⟨rfl, rfl⟩)
      | (go_at_call 47; refine (unhide hha).mono ?_; rintro e w2 ⟨rfl, rfl⟩; rw [unhide hd])
      | (go_at_call 52; refine (unhide hup).mono ?_; rintro e w2 ⟨rfl, rfl⟩))
    obtain ⟨k0, k2, kf, hLW⟩ := h.unread (Below.refl _ _)
    refine leaves_cons (f := 46) (args := #[.pointer (some ⟨L.wb, 0, none⟩)]) (by simp) (by simp [go_sem]) ?_
    refine (unlock_deferred Tryz.muLib ⟨L.wb, 0, none⟩ .returning _ k0 kf).mono ?_
    rintro e u' w'' ⟨rfl, rfl, rfl⟩
    exact ⟨_, results_tmp2 rfl _ _ _, by rw [unhide hP]; rfl, hLW⟩
  · have hd : Hid ((decide (0 ≤ i) && decide (i < s.parts + 1)) = false) := by show _ = _; simp; omega
    have hP : Hid (s.upP i = (false, 1)) := by show _ = _; unfold St.upP; rw [if_neg h0]
    clear h0
    go_enter_defers Tryz.func22, Tryz.ntmps22
    go_wp2_with (first
      | (go_at_call 45; refine (lock_free Tryz.muLib ⟨L.wb, 0, none⟩ _ l0 lf).mono ?_; rintro e w' ⟨rfl, rfl⟩)
      | (go_at_call 47; refine (unhide hha).mono ?_; rintro e w2 ⟨rfl, rfl⟩; rw [unhide hd]))
    obtain ⟨k0, k2, kf, hLW⟩ := h.unread (Below.refl _ _)
    refine leaves_cons (f := 46) (args := #[.pointer (some ⟨L.wb, 0, none⟩)]) (by simp) (by simp [go_sem]) ?_
    refine (unlock_deferred Tryz.muLib ⟨L.wb, 0, none⟩ .returning _ k0 kf).mono ?_
    rintro e u' w'' ⟨rfl, rfl, rfl⟩
    exact ⟨_, results_tmp2 rfl _ _ _, by rw [unhide hP]; rfl, hLW⟩

set_option maxRecDepth 100000 in
set_option maxHeartbeats 1000000 in
theorem flying_any {w : World} {L : Lay} {s : St} (h : RepW w L s) (hfl : s.fly.length ≤ 60) :
    Calls Tryz.prog 29 #[.pointer (some ⟨L.wb, 0, none⟩)] w fun e w' => ∃ a cap, e = .returned (.slice a s.fly.length cap) ∧ ReadsW L w s w' ∧
      w'.ownsRow w.heap.size 109 4 (.slice a s.fly.length cap) s.fly.length (msgCells s.fly) := by
  have l0 := h.l0
  have lf := h.lf
  have l2 := h.l2
  have hR1 := h.locked (.int .i32 1)
  have l2' : (w.setCell ⟨L.wb, 0, none⟩ (.int .i32 1)).cell? ⟨L.wb, 2, none⟩ = some (.pointer (some ⟨L.nb, 0, none⟩)) := (World.cell?_setCell_other _ _ _ _ (by simp)).trans h.l2
  have hfn := hide (nodesFlying_any hR1 hfl)
  have hwl := h.wlt
  go_enter_defers Tryz.func29, Tryz.ntmps29
  go_wp2_with (first
    | (go_at_call 45; refine (lock_free Tryz.muLib ⟨L.wb, 0, none⟩ _ l0 lf).mono ?_; rintro e w' ⟨rfl, rfl⟩)
    | (go_at_call 59; refine (unhide hfn).mono ?_; rintro e w2 ⟨a, cap, rfl, hb, hown⟩))
  obtain ⟨k0, k2, kf, hLW⟩ := h.unread hb
  refine leaves_cons (f := 46) (args := #[.pointer (some ⟨L.wb, 0, none⟩)]) (by simp) (by simp [go_sem]) ?_
  refine (unlock_deferred Tryz.muLib ⟨L.wb, 0, none⟩ .returning _ k0 kf).mono ?_
  rintro e u' w'' ⟨rfl, rfl, rfl⟩
  refine ⟨_, results_tmp rfl _ _ _, a, cap, rfl, hLW, ?_⟩
  have hown' : w2.ownsRow w.heap.size 109 4 (.slice a s.fly.length cap) s.fly.length (msgCells s.fly) := by simpa [World.setCell] using hown
  exact ownsRow_setCell_below hown' hwl _

set_option maxRecDepth 100000 in
set_option maxHeartbeats 1000000 in
theorem log_any {w : World} {L : Lay} {s : St} (h : RepW w L s) (hk : Ok s) (i : Int) :
    Calls Tryz.prog 18 #[.pointer (some ⟨L.wb, 0, none⟩), .int .i64 i] w fun e w' => ∃ a cap, e = .returned (.tuple #[.slice a (s.logP i).1.length cap, .int .i64 ((s.logP i).2 : Nat)]) ∧ ReadsW L w s w' ∧
      w'.ownsRow w.heap.size 43 2 (.slice a (s.logP i).1.length cap) (s.logP i).1.length (recCells (s.logP i).1) := by
  have l0 := h.l0
  have lf := h.lf
  have l2 := h.l2
  have hR1 := h.locked (.int .i32 1)
  have l2' : (w.setCell ⟨L.wb, 0, none⟩ (.int .i32 1)).cell? ⟨L.wb, 2, none⟩ = some (.pointer (some ⟨L.nb, 0, none⟩)) := (World.cell?_setCell_other _ _ _ _ (by simp)).trans h.l2
  have hwl := h.wlt
  have hha := hide (nodesHas_any hR1 hk.inv.wf i)
  by_cases h0 : 0 ≤ i ∧ i ≤ s.parts
  · obtain ⟨j, rfl⟩ : ∃ j : Nat, i = j := ⟨i.toNat, by omega⟩
    have hd : Hid ((decide (0 ≤ (j : Int)) && decide ((j : Int) < s.parts + 1)) = true) := by show _ = _; simp; omega
    have hP : Hid (s.logP j = (s.log j, 0)) := by show _ = _; unfold St.logP; rw [if_pos h0]; simp
    have hfn := hide (nodesLog_any hR1 hk.inv.wf j (by omega))
    clear h0
    go_enter_defers Tryz.func18, Tryz.ntmps18
    go_wp2_with (first
      | (go_at_call 45; refine (lock_free Tryz.muLib ⟨L.wb, 0, none⟩ _ l0 lf).mono ?_; rintro e w' ⟨rfl, rfl⟩)
      | (go_at_call 47; refine (unhide hha).mono ?_; rintro e w2 ⟨rfl, rfl⟩; rw [unhide hd])
      | (go_at_call 48; refine (unhide hfn).mono ?_; rintro e w2 ⟨a, cap, rfl, hb, hown⟩))
    obtain ⟨k0, k2, kf, hLW⟩ := h.unread hb
    refine leaves_cons (f := 46) (args := #[.pointer (some ⟨L.wb, 0, none⟩)]) (by simp) (by simp [go_sem]) ?_
    refine (unlock_deferred Tryz.muLib ⟨L.wb, 0, none⟩ .returning _ k0 kf).mono ?_
    rintro e u' w'' ⟨rfl, rfl, rfl⟩
    refine ⟨_, results_tmp2 rfl _ _ _, a, cap, by rw [unhide hP]; rfl, hLW, ?_⟩
    rw [unhide hP]
    have hown' : w2.ownsRow w.heap.size 43 2 (.slice a (s.log j).length cap) (s.log j).length (recCells (s.log j)) := by simpa [World.setCell] using hown
    exact ownsRow_setCell_below hown' hwl _
  · have hd : Hid ((decide (0 ≤ i) && decide (i < s.parts + 1)) = false) := by show _ = _; simp; omega
    have hP : Hid (s.logP i = ([], 1)) := by show _ = _; unfold St.logP; rw [if_neg h0]
    clear h0
    go_enter_defers Tryz.func18, Tryz.ntmps18
    go_wp2_with (first
      | (go_at_call 45; refine (lock_free Tryz.muLib ⟨L.wb, 0, none⟩ _ l0 lf).mono ?_; rintro e w' ⟨rfl, rfl⟩)
      | (go_at_call 47; refine (unhide hha).mono ?_; rintro e w2 ⟨rfl, rfl⟩; rw [unhide hd]))
    obtain ⟨k0, k2, kf, hLW⟩ := h.unread (Below.refl _ _)
    refine leaves_cons (f := 46) (args := #[.pointer (some ⟨L.wb, 0, none⟩)]) (by simp) (by simp [go_sem]) ?_
    refine (unlock_deferred Tryz.muLib ⟨L.wb, 0, none⟩ .returning _ k0 kf).mono ?_
    rintro e u' w'' ⟨rfl, rfl, rfl⟩
    refine ⟨_, results_tmp2 rfl _ _ _, none, 0, by rw [unhide hP]; rfl, hLW, ?_⟩
    rw [unhide hP]
    exact World.ownsRow_nil _ _ _ _

set_option maxRecDepth 100000 in
set_option maxHeartbeats 1000000 in
theorem state_any {w : World} {L : Lay} {s : St} (h : RepW w L s) (hk : Ok s) (i t : Int) :
    Calls Tryz.prog 20 #[.pointer (some ⟨L.wb, 0, none⟩), .int .i64 i, .int .i64 t] w fun e w' => e = .returned (.tuple #[.int .i64 ((s.stateP i t).1 : Nat), .int .i64 ((s.stateP i t).2 : Nat)]) ∧ ReadsW L w s w' := by
  have l0 := h.l0
  have lf := h.lf
  have l2 := h.l2
  have hR1 := h.locked (.int .i32 1)
  have l2' : (w.setCell ⟨L.wb, 0, none⟩ (.int .i32 1)).cell? ⟨L.wb, 2, none⟩ = some (.pointer (some ⟨L.nb, 0, none⟩)) := (World.cell?_setCell_other _ _ _ _ (by simp)).trans h.l2
  have hha := hide (nodesHas_any hR1 hk.inv.wf i)
  have hht := hide (nodesHasTrans_any hR1 hk.inv.wf t)
  by_cases h0 : 0 ≤ i ∧ i ≤ s.parts
  · obtain ⟨j, rfl⟩ : ∃ j : Nat, i = j := ⟨i.toNat, by omega⟩
    have hd : Hid ((decide (0 ≤ (j : Int)) && decide ((j : Int) < s.parts + 1)) = true) := by show _ = _; simp; omega
    by_cases h1 : 1 ≤ t ∧ t ≤ s.deals.length
    · obtain ⟨k, rfl⟩ : ∃ k : Nat, t = k := ⟨t.toNat, by omega⟩
      have hd2 : Hid ((decide (1 ≤ (k : Int)) && decide ((k : Int) ≤ s.deals.length)) = true) := by show _ = _; simp; omega
      have hP : Hid (s.stateP j k = (s.state j k, 0)) := by show _ = _; unfold St.stateP; rw [if_pos ⟨h0, h1⟩]; simp
      have hfn := hide (nodesState_any hR1 j k (by omega) hk.inv.p5 (hk.inv.wf.ll j (by omega)))
      clear h0 h1
      go_enter_defers Tryz.func20, Tryz.ntmps20
      go_wp2_with (first
        | (go_at_call 45; refine (lock_free Tryz.muLib ⟨L.wb, 0, none⟩ _ l0 lf).mono ?_; rintro e w' ⟨rfl, rfl⟩)
        | (go_at_call 47; refine (unhide hha).mono ?_; rintro e w2 ⟨rfl, rfl⟩; rw [unhide hd])
        | (go_at_call 49; refine (unhide hht).mono ?_; rintro e w2 ⟨rfl, rfl⟩; rw [unhide hd2])
        | (go_at_call 50; refine (unhide hfn).mono ?_; rintro e w2 ⟨rfl, rfl⟩))
      obtain ⟨k0, k2, kf, hLW⟩ := h.unread (Below.refl _ _)
      refine leaves_cons (f := 46) (args := #[.pointer (some ⟨L.wb, 0, none⟩)]) (by simp) (by simp [go_sem]) ?_
      refine (unlock_deferred Tryz.muLib ⟨L.wb, 0, none⟩ .returning _ k0 kf).mono ?_
      rintro e u' w'' ⟨rfl, rfl, rfl⟩
      exact ⟨_, results_tmp2 rfl _ _ _, by rw [unhide hP]; rfl, hLW⟩
    · have hd2 : Hid ((decide (1 ≤ t) && decide (t ≤ s.deals.length)) = false) := by show _ = _; simp; omega
      have hP : Hid (s.stateP j t = (0, 1)) := by show _ = _; unfold St.stateP; rw [if_neg (fun hh => h1 hh.2)]
      clear h0 h1
      go_enter_defers Tryz.func20, Tryz.ntmps20
      go_wp2_with (first
        | (go_at_call 45; refine (lock_free Tryz.muLib ⟨L.wb, 0, none⟩ _ l0 lf).mono ?_; rintro e w' ⟨rfl, rfl⟩)
        | (go_at_call 47; refine (unhide hha).mono ?_; rintro e w2 ⟨rfl, rfl⟩; rw [unhide hd])
        | (go_at_call 49; refine (unhide hht).mono ?_; rintro e w2 ⟨rfl, rfl⟩; rw [unhide hd2]))
      obtain ⟨k0, k2, kf, hLW⟩ := h.unread (Below.refl _ _)
      refine leaves_cons (f := 46) (args := #[.pointer (some ⟨L.wb, 0, none⟩)]) (by simp) (by simp [go_sem]) ?_
      refine (unlock_deferred Tryz.muLib ⟨L.wb, 0, none⟩ .returning _ k0 kf).mono ?_
      rintro e u' w'' ⟨rfl, rfl, rfl⟩
      exact ⟨_, results_tmp2 rfl _ _ _, by rw [unhide hP]; rfl, hLW⟩
  · have hd : Hid ((decide (0 ≤ i) && decide (i < s.parts + 1)) = false) := by show _ = _; simp; omega
    have hP : Hid (s.stateP i t = (0, 1)) := by show _ = _; unfold St.stateP; rw [if_neg (fun hh => h0 hh.1)]
    clear h0
    go_enter_defers Tryz.func20, Tryz.ntmps20
    go_wp2_with (first
      | (go_at_call 45; refine (lock_free Tryz.muLib ⟨L.wb, 0, none⟩ _ l0 lf).mono ?_; rintro e w' ⟨rfl, rfl⟩)
      | (go_at_call 47; refine (unhide hha).mono ?_; rintro e w2 ⟨rfl, rfl⟩; rw [unhide hd]))
    obtain ⟨k0, k2, kf, hLW⟩ := h.unread (Below.refl _ _)
    refine leaves_cons (f := 46) (args := #[.pointer (some ⟨L.wb, 0, none⟩)]) (by simp) (by simp [go_sem]) ?_
    refine (unlock_deferred Tryz.muLib ⟨L.wb, 0, none⟩ .returning _ k0 kf).mono ?_
    rintro e u' w'' ⟨rfl, rfl, rfl⟩
    exact ⟨_, results_tmp2 rfl _ _ _, by rw [unhide hP]; rfl, hLW⟩

set_option maxRecDepth 100000 in
set_option maxHeartbeats 1000000 in
theorem value_any {w : World} {L : Lay} {s : St} (h : RepW w L s) (hk : Ok s) (i k : Int) :
    Calls Tryz.prog 51 #[.pointer (some ⟨L.wb, 0, none⟩), .int .i64 i, .int .i64 k] w fun e w' => e = .returned (.tuple #[.int .i64 (s.valueP i k).1, .int .i64 ((s.valueP i k).2 : Nat)]) ∧ ReadsW L w s w' := by
  have l0 := h.l0
  have lf := h.lf
  have l2 := h.l2
  have hR1 := h.locked (.int .i32 1)
  have l2' : (w.setCell ⟨L.wb, 0, none⟩ (.int .i32 1)).cell? ⟨L.wb, 2, none⟩ = some (.pointer (some ⟨L.nb, 0, none⟩)) := (World.cell?_setCell_other _ _ _ _ (by simp)).trans h.l2
  have hha := hide (nodesHasKey_any hR1 hk.inv.wf i k)
  by_cases h0 : s.keyOk i k
  · have h0' := h0
    unfold St.keyOk at h0'
    obtain ⟨j, rfl⟩ : ∃ j : Nat, i = j := ⟨i.toNat, by omega⟩
    have hd : Hid ((decide (1 ≤ (j : Int)) && decide ((j : Int) < s.parts + 1) && (decide (0 ≤ k) && decide (k < 4))) = true) := by show _ = _; simp; omega
    have hP : Hid (s.valueP j k = (s.value j k, 0)) := by show _ = _; unfold St.valueP; rw [if_pos h0]; simp
    have hfn := hide (nodesValue_any hR1 hk.inv.wf j k (by omega))
    clear h0 h0'
    go_enter_defers Tryz.func51, Tryz.ntmps51
    go_wp2_with (first
      | (go_at_call 45; refine (lock_free Tryz.muLib ⟨L.wb, 0, none⟩ _ l0 lf).mono ?_; rintro e w' ⟨rfl, rfl⟩)
      | (go_at_call 57; refine (unhide hha).mono ?_; rintro e w2 ⟨rfl, rfl⟩; rw [unhide hd])
      | (go_at_call 85; refine (unhide hfn).mono ?_; rintro e w2 ⟨rfl, hb⟩))
    obtain ⟨k0, k2, kf, hLW⟩ := h.unread hb
    refine leaves_cons (f := 46) (args := #[.pointer (some ⟨L.wb, 0, none⟩)]) (by simp) (by simp [go_sem]) ?_
    refine (unlock_deferred Tryz.muLib ⟨L.wb, 0, none⟩ .returning _ k0 kf).mono ?_
    rintro e u' w'' ⟨rfl, rfl, rfl⟩
    exact ⟨_, results_tmp2 rfl _ _ _, by rw [unhide hP]; rfl, hLW⟩
  · have hd : Hid ((decide (1 ≤ i) && decide (i < s.parts + 1) && (decide (0 ≤ k) && decide (k < 4))) = false) := by
      show _ = _
      have h0' := h0
      unfold St.keyOk at h0'
      simp; omega
    have hP : Hid (s.valueP i k = (0, 1)) := by show _ = _; unfold St.valueP; rw [if_neg h0]
    clear h0
    go_enter_defers Tryz.func51, Tryz.ntmps51
    go_wp2_with (first
      | (go_at_call 45; refine (lock_free Tryz.muLib ⟨L.wb, 0, none⟩ _ l0 lf).mono ?_; rintro e w' ⟨rfl, rfl⟩)
      | (go_at_call 57; refine (unhide hha).mono ?_; rintro e w2 ⟨rfl, rfl⟩; rw [unhide hd]))
    obtain ⟨k0, k2, kf, hLW⟩ := h.unread (Below.refl _ _)
    refine leaves_cons (f := 46) (args := #[.pointer (some ⟨L.wb, 0, none⟩)]) (by simp) (by simp [go_sem]) ?_
    refine (unlock_deferred Tryz.muLib ⟨L.wb, 0, none⟩ .returning _ k0 kf).mono ?_
    rintro e u' w'' ⟨rfl, rfl, rfl⟩
    exact ⟨_, results_tmp2 rfl _ _ _, by rw [unhide hP]; rfl, hLW⟩

set_option maxRecDepth 100000 in
set_option maxHeartbeats 1000000 in
theorem holder_any {w : World} {L : Lay} {s : St} (h : RepW w L s) (hk : Ok s) (i k : Int) :
    Calls Tryz.prog 28 #[.pointer (some ⟨L.wb, 0, none⟩), .int .i64 i, .int .i64 k] w fun e w' => e = .returned (.tuple #[.int .i64 ((s.holderP i k).1 : Nat), .int .i64 ((s.holderP i k).2 : Nat)]) ∧ ReadsW L w s w' := by
  have l0 := h.l0
  have lf := h.lf
  have l2 := h.l2
  have hR1 := h.locked (.int .i32 1)
  have l2' : (w.setCell ⟨L.wb, 0, none⟩ (.int .i32 1)).cell? ⟨L.wb, 2, none⟩ = some (.pointer (some ⟨L.nb, 0, none⟩)) := (World.cell?_setCell_other _ _ _ _ (by simp)).trans h.l2
  have hha := hide (nodesHasKey_any hR1 hk.inv.wf i k)
  by_cases h0 : s.keyOk i k
  · have h0' := h0
    unfold St.keyOk at h0'
    obtain ⟨j, rfl⟩ : ∃ j : Nat, i = j := ⟨i.toNat, by omega⟩
    have hd : Hid ((decide (1 ≤ (j : Int)) && decide ((j : Int) < s.parts + 1) && (decide (0 ≤ k) && decide (k < 4))) = true) := by show _ = _; simp; omega
    have hP : Hid (s.holderP j k = (s.holder j k, 0)) := by show _ = _; unfold St.holderP; rw [if_pos h0]; simp
    have hfn := hide (nodesHolder_any hR1 hk.inv.wf j k (by omega))
    clear h0 h0'
    go_enter_defers Tryz.func28, Tryz.ntmps28
    go_wp2_with (first
      | (go_at_call 45; refine (lock_free Tryz.muLib ⟨L.wb, 0, none⟩ _ l0 lf).mono ?_; rintro e w' ⟨rfl, rfl⟩)
      | (go_at_call 57; refine (unhide hha).mono ?_; rintro e w2 ⟨rfl, rfl⟩; rw [unhide hd])
      | (go_at_call 58; refine (unhide hfn).mono ?_; rintro e w2 ⟨rfl, hb⟩))
    obtain ⟨k0, k2, kf, hLW⟩ := h.unread hb
    refine leaves_cons (f := 46) (args := #[.pointer (some ⟨L.wb, 0, none⟩)]) (by simp) (by simp [go_sem]) ?_
    refine (unlock_deferred Tryz.muLib ⟨L.wb, 0, none⟩ .returning _ k0 kf).mono ?_
    rintro e u' w'' ⟨rfl, rfl, rfl⟩
    exact ⟨_, results_tmp2 rfl _ _ _, by rw [unhide hP]; rfl, hLW⟩
  · have hd : Hid ((decide (1 ≤ i) && decide (i < s.parts + 1) && (decide (0 ≤ k) && decide (k < 4))) = false) := by
      show _ = _
      have h0' := h0
      unfold St.keyOk at h0'
      simp; omega
    have hP : Hid (s.holderP i k = (0, 1)) := by show _ = _; unfold St.holderP; rw [if_neg h0]
    clear h0
    go_enter_defers Tryz.func28, Tryz.ntmps28
    go_wp2_with (first
      | (go_at_call 45; refine (lock_free Tryz.muLib ⟨L.wb, 0, none⟩ _ l0 lf).mono ?_; rintro e w' ⟨rfl, rfl⟩)
      | (go_at_call 57; refine (unhide hha).mono ?_; rintro e w2 ⟨rfl, rfl⟩; rw [unhide hd]))
    obtain ⟨k0, k2, kf, hLW⟩ := h.unread (Below.refl _ _)
    refine leaves_cons (f := 46) (args := #[.pointer (some ⟨L.wb, 0, none⟩)]) (by simp) (by simp [go_sem]) ?_
    refine (unlock_deferred Tryz.muLib ⟨L.wb, 0, none⟩ .returning _ k0 kf).mono ?_
    rintro e u' w'' ⟨rfl, rfl, rfl⟩
    exact ⟨_, results_tmp2 rfl _ _ _, by rw [unhide hP]; rfl, hLW⟩

end Go.Proofs.YtekbjlhbjcikdaaGreat
