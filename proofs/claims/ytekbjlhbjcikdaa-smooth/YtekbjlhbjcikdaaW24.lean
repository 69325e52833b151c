/-
  Walks of the face's calls: Fuse, Up, Flying, Log, State, Value, Holder.
-/
import Derived.Test.YtekbjlhbjcikdaaW23
namespace Go.Proofs.Ytekbjlhbjcikdaa
open Go.RowKit Acc Go.MuLone

set_option maxRecDepth 100000 in
set_option maxHeartbeats 1000000 in
theorem flying_any {w : World} {L : Lay} {s : St} (h : RepW w L s) (hfl : s.fly.length ≤ 60) :
    Calls Try.prog 8 #[.pointer (some ⟨L.wb, 0, none⟩)] w fun e w' => ∃ a cap, e = .returned (.slice a s.fly.length cap) ∧ ReadsW L w s w' ∧
      w'.ownsRow w.heap.size 90 4 (.slice a s.fly.length cap) s.fly.length (msgCells s.fly) := by
  have l0 := h.l0
  have lf := h.lf
  have l2 := h.l2
  have hR1 := h.locked (.int .i32 1)
  have l2' : (w.setCell ⟨L.wb, 0, none⟩ (.int .i32 1)).cell? ⟨L.wb, 2, none⟩ = some (.pointer (some ⟨L.nb, 0, none⟩)) := (World.cell?_setCell_other _ _ _ _ (by simp)).trans h.l2
  have hfn := hide (nodesFlying_any hR1 hfl)
  have hwl := h.wlt
  go_enter_defers Try.func8, Try.ntmps8
  go_wp2_with (first
    | (go_at_call 15; refine (lock_free Try.muLib ⟨L.wb, 0, none⟩ _ l0 lf).mono ?_; rintro e w' ⟨rfl, rfl⟩)
    | (go_at_call 25; refine (unhide hfn).mono ?_; rintro e w2 ⟨a, cap, rfl, hb, hown⟩))
  obtain ⟨k0, k2, kf, hLW⟩ := h.unread hb
  refine leaves_cons (f := 16) (args := #[.pointer (some ⟨L.wb, 0, none⟩)]) (by simp) (by simp [go_sem]) ?_
  refine (unlock_deferred Try.muLib ⟨L.wb, 0, none⟩ .returning _ k0 kf).mono ?_
  rintro e u' w'' ⟨rfl, rfl, rfl⟩
  refine ⟨_, results_tmp rfl _ _ _, a, cap, rfl, hLW, ?_⟩
  have hown' : w2.ownsRow w.heap.size 90 4 (.slice a s.fly.length cap) s.fly.length (msgCells s.fly) := by simpa [World.setCell] using hown
  exact ownsRow_setCell_below hown' hwl _

set_option maxRecDepth 100000 in
set_option maxHeartbeats 1000000 in
theorem state_any {w : World} {L : Lay} {s : St} (h : RepW w L s) (hk : Ok s) (i t : Int) :
    Calls Try.prog 12 #[.pointer (some ⟨L.wb, 0, none⟩), .int .i64 i, .int .i64 t] w fun e w' => e = .returned (.tuple #[.int .i64 ((s.stateP i t).1 : Nat), .int .i64 ((s.stateP i t).2 : Nat)]) ∧ ReadsW L w s w' := by
  have l0 := h.l0
  have lf := h.lf
  have l2 := h.l2
  have hR1 := h.locked (.int .i32 1)
  have l2' : (w.setCell ⟨L.wb, 0, none⟩ (.int .i32 1)).cell? ⟨L.wb, 2, none⟩ = some (.pointer (some ⟨L.nb, 0, none⟩)) := (World.cell?_setCell_other _ _ _ _ (by simp)).trans h.l2
  have hha := hide (nodesHas_any hR1 hk.inv.wf i)
  have hht := hide (nodesHasTrans_any hR1 hk.inv.wf t)
  by_cases h0 : 0 ≤ i ∧ i ≤ s.parts
  · obtain ⟨j, rfl⟩ : ∃ j : Nat, i = j := ⟨i.toNat, by omega⟩
    have hd : Hid ((decide (0 ≤ (j : Int)) && decide ((j : Int) < s.parts + 1)) = true) := by show _ = _; simp; omega
    by_cases h1 : 1 ≤ t ∧ t ≤ s.deals.length
    · obtain ⟨k, rfl⟩ : ∃ k : Nat, t = k := ⟨t.toNat, by omega⟩
      have hd2 : Hid ((decide (1 ≤ (k : Int)) && decide ((k : Int) ≤ s.deals.length)) = true) := by show _ = _; simp; omega
      have hP : Hid (s.stateP j k = (s.state j k, 0)) := by show _ = _; unfold St.stateP; rw [if_pos ⟨h0, h1⟩]; simp
      have hfn := hide (nodesState_any hR1 j k (by omega) hk.inv.p5 (hk.inv.wf.ll j (by omega)))
      clear h0 h1
      go_enter_defers Try.func12, Try.ntmps12
      go_wp2_with (first
        | (go_at_call 15; refine (lock_free Try.muLib ⟨L.wb, 0, none⟩ _ l0 lf).mono ?_; rintro e w' ⟨rfl, rfl⟩)
        | (go_at_call 28; refine (unhide hha).mono ?_; rintro e w2 ⟨rfl, rfl⟩; rw [unhide hd])
        | (go_at_call 29; refine (unhide hht).mono ?_; rintro e w2 ⟨rfl, rfl⟩; rw [unhide hd2])
        | (go_at_call 30; refine (unhide hfn).mono ?_; rintro e w2 ⟨rfl, rfl⟩))
      obtain ⟨k0, k2, kf, hLW⟩ := h.unread (Below.refl _ _)
      refine leaves_cons (f := 16) (args := #[.pointer (some ⟨L.wb, 0, none⟩)]) (by simp) (by simp [go_sem]) ?_
      refine (unlock_deferred Try.muLib ⟨L.wb, 0, none⟩ .returning _ k0 kf).mono ?_
      rintro e u' w'' ⟨rfl, rfl, rfl⟩
      exact ⟨_, results_tmp2 rfl _ _ _, by rw [unhide hP]; rfl, hLW⟩
    · have hd2 : Hid ((decide (1 ≤ t) && decide (t ≤ s.deals.length)) = false) := by show _ = _; simp; omega
      have hP : Hid (s.stateP j t = (0, 1)) := by show _ = _; unfold St.stateP; rw [if_neg (fun hh => h1 hh.2)]
      clear h0 h1
      go_enter_defers Try.func12, Try.ntmps12
      go_wp2_with (first
        | (go_at_call 15; refine (lock_free Try.muLib ⟨L.wb, 0, none⟩ _ l0 lf).mono ?_; rintro e w' ⟨rfl, rfl⟩)
        | (go_at_call 28; refine (unhide hha).mono ?_; rintro e w2 ⟨rfl, rfl⟩; rw [unhide hd])
        | (go_at_call 29; refine (unhide hht).mono ?_; rintro e w2 ⟨rfl, rfl⟩; rw [unhide hd2]))
      obtain ⟨k0, k2, kf, hLW⟩ := h.unread (Below.refl _ _)
      refine leaves_cons (f := 16) (args := #[.pointer (some ⟨L.wb, 0, none⟩)]) (by simp) (by simp [go_sem]) ?_
      refine (unlock_deferred Try.muLib ⟨L.wb, 0, none⟩ .returning _ k0 kf).mono ?_
      rintro e u' w'' ⟨rfl, rfl, rfl⟩
      exact ⟨_, results_tmp2 rfl _ _ _, by rw [unhide hP]; rfl, hLW⟩
  · have hd : Hid ((decide (0 ≤ i) && decide (i < s.parts + 1)) = false) := by show _ = _; simp; omega
    have hP : Hid (s.stateP i t = (0, 1)) := by show _ = _; unfold St.stateP; rw [if_neg (fun hh => h0 hh.1)]
    clear h0
    go_enter_defers Try.func12, Try.ntmps12
    go_wp2_with (first
      | (go_at_call 15; refine (lock_free Try.muLib ⟨L.wb, 0, none⟩ _ l0 lf).mono ?_; rintro e w' ⟨rfl, rfl⟩)
      | (go_at_call 28; refine (unhide hha).mono ?_; rintro e w2 ⟨rfl, rfl⟩; rw [unhide hd]))
    obtain ⟨k0, k2, kf, hLW⟩ := h.unread (Below.refl _ _)
    refine leaves_cons (f := 16) (args := #[.pointer (some ⟨L.wb, 0, none⟩)]) (by simp) (by simp [go_sem]) ?_
    refine (unlock_deferred Try.muLib ⟨L.wb, 0, none⟩ .returning _ k0 kf).mono ?_
    rintro e u' w'' ⟨rfl, rfl, rfl⟩
    exact ⟨_, results_tmp2 rfl _ _ _, by rw [unhide hP]; rfl, hLW⟩

set_option maxRecDepth 100000 in
set_option maxHeartbeats 1000000 in
theorem value_any {w : World} {L : Lay} {s : St} (h : RepW w L s) (hk : Ok s) (i k : Int) :
    Calls Try.prog 13 #[.pointer (some ⟨L.wb, 0, none⟩), .int .i64 i, .int .i64 k] w fun e w' => e = .returned (.tuple #[.int .i64 (s.valueP i k).1, .int .i64 ((s.valueP i k).2 : Nat)]) ∧ ReadsW L w s w' := by
  have l0 := h.l0
  have lf := h.lf
  have l2 := h.l2
  have hR1 := h.locked (.int .i32 1)
  have l2' : (w.setCell ⟨L.wb, 0, none⟩ (.int .i32 1)).cell? ⟨L.wb, 2, none⟩ = some (.pointer (some ⟨L.nb, 0, none⟩)) := (World.cell?_setCell_other _ _ _ _ (by simp)).trans h.l2
  have hha := hide (nodesHasKey_any hR1 hk.inv.wf i k)
  by_cases h0 : s.keyOk i k
  · have h0' := h0
    unfold St.keyOk at h0'
    obtain ⟨j, rfl⟩ : ∃ j : Nat, i = j := ⟨i.toNat, by omega⟩
    have hd : Hid ((decide (1 ≤ (j : Int)) && decide ((j : Int) < s.parts + 1) && (decide (0 ≤ k) && decide (k < 4))) = true) := by show _ = _; simp; omega
    have hP : Hid (s.valueP j k = (s.value j k, 0)) := by show _ = _; unfold St.valueP; rw [if_pos h0]; simp
    have hfn := hide (nodesValue_any hR1 hk.inv.wf j k (by omega))
    clear h0 h0'
    go_enter_defers Try.func13, Try.ntmps13
    go_wp2_with (first
      | (go_at_call 15; refine (lock_free Try.muLib ⟨L.wb, 0, none⟩ _ l0 lf).mono ?_; rintro e w' ⟨rfl, rfl⟩)
      | (go_at_call 31; refine (unhide hha).mono ?_; rintro e w2 ⟨rfl, rfl⟩; rw [unhide hd])
      | (go_at_call 32; refine (unhide hfn).mono ?_; rintro e w2 ⟨rfl, hb⟩))
    obtain ⟨k0, k2, kf, hLW⟩ := h.unread hb
    refine leaves_cons (f := 16) (args := #[.pointer (some ⟨L.wb, 0, none⟩)]) (by simp) (by simp [go_sem]) ?_
    refine (unlock_deferred Try.muLib ⟨L.wb, 0, none⟩ .returning _ k0 kf).mono ?_
    rintro e u' w'' ⟨rfl, rfl, rfl⟩
    exact ⟨_, results_tmp2 rfl _ _ _, by rw [unhide hP]; rfl, hLW⟩
  · have hd : Hid ((decide (1 ≤ i) && decide (i < s.parts + 1) && (decide (0 ≤ k) && decide (k < 4))) = false) := by
      show _ = _
      have h0' := h0
      unfold St.keyOk at h0'
      simp; omega
    have hP : Hid (s.valueP i k = (0, 1)) := by show _ = _; unfold St.valueP; rw [if_neg h0]
    clear h0
    go_enter_defers Try.func13, Try.ntmps13
    go_wp2_with (first
      | (go_at_call 15; refine (lock_free Try.muLib ⟨L.wb, 0, none⟩ _ l0 lf).mono ?_; rintro e w' ⟨rfl, rfl⟩)
      | (go_at_call 31; refine (unhide hha).mono ?_; rintro e w2 ⟨rfl, rfl⟩; rw [unhide hd]))
    obtain ⟨k0, k2, kf, hLW⟩ := h.unread (Below.refl _ _)
    refine leaves_cons (f := 16) (args := #[.pointer (some ⟨L.wb, 0, none⟩)]) (by simp) (by simp [go_sem]) ?_
    refine (unlock_deferred Try.muLib ⟨L.wb, 0, none⟩ .returning _ k0 kf).mono ?_
    rintro e u' w'' ⟨rfl, rfl, rfl⟩
    exact ⟨_, results_tmp2 rfl _ _ _, by rw [unhide hP]; rfl, hLW⟩

end Go.Proofs.Ytekbjlhbjcikdaa
