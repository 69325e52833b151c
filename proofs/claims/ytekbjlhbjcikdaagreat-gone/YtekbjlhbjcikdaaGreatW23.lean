/-
  Walks of the face's calls with a node: Tick, Crash, Recover.
-/
import Derived.Test.YtekbjlhbjcikdaaGreatW22
namespace Go.Proofs.YtekbjlhbjcikdaaGreat
open Go.RowKit Acc Go.MuLone

theorem Acts.retD {L : Lay} {w w' : World} {n : Nat} {s : St} {e : Ending} (h : e = .returned (.tuple #[])) (hl : Leaves L w s w') : Acts L w n (s, true) e w' := ⟨h, hl⟩

set_option maxRecDepth 100000 in
set_option maxHeartbeats 1000000 in
theorem withNode_no {w : World} {L : Lay} {s : St} {f : Nat} {i : Int} (h : RepW w L s) (hf : Wf s) (u : Bool) (k : Nat) (h0 : s.nodeE i u = k) (hk : k = 1 ∨ k = 2) :
    Calls Tryz.prog 53 #[.pointer (some ⟨L.wb, 0, none⟩), .int .i64 i, .bool u, .func (Fn.func f) #[] #[]] w fun e w' => e = .returned (.int .i64 (k : Nat)) ∧ LeavesW L w s w' := by
  have hwl := h.wlt
  go_enter_defers Tryz.func53, Tryz.ntmps53
  go_wp2_with fail
  have hb3 : Below w.heap.size w (((w.alloc (Obj.cells #[Value.pointer (some ⟨L.wb, 0, none⟩)] 37)).alloc (Obj.cells #[Value.int IntKind.i64 i] 3)).alloc (Obj.cells #[Value.func (Fn.func f) #[] #[]] 95)) := ((below_alloc _ _).more (below_alloc _ _)).more (below_alloc _ _)
  have x0 : (((w.alloc (Obj.cells #[Value.pointer (some ⟨L.wb, 0, none⟩)] 37)).alloc (Obj.cells #[Value.int IntKind.i64 i] 3)).alloc (Obj.cells #[Value.func (Fn.func f) #[] #[]] 95)).cell? ⟨w.heap.size, 0, none⟩ = some (.pointer (some ⟨L.wb, 0, none⟩)) := by simp [go_sem]
  have x1 : (((w.alloc (Obj.cells #[Value.pointer (some ⟨L.wb, 0, none⟩)] 37)).alloc (Obj.cells #[Value.int IntKind.i64 i] 3)).alloc (Obj.cells #[Value.func (Fn.func f) #[] #[]] 95)).cell? ⟨w.heap.size + 1, 0, none⟩ = some (.int .i64 i) := by simp [go_sem]
  have x2 : (((w.alloc (Obj.cells #[Value.pointer (some ⟨L.wb, 0, none⟩)] 37)).alloc (Obj.cells #[Value.int IntKind.i64 i] 3)).alloc (Obj.cells #[Value.func (Fn.func f) #[] #[]] 95)).cell? ⟨w.heap.size + 1 + 1, 0, none⟩ = some (.func (Fn.func f) #[] #[]) := by simp [go_sem]
  generalize (((w.alloc (Obj.cells #[Value.pointer (some ⟨L.wb, 0, none⟩)] 37)).alloc (Obj.cells #[Value.int IntKind.i64 i] 3)).alloc (Obj.cells #[Value.func (Fn.func f) #[] #[]] 95)) = w3 at *
  have h3 := h.below hb3
  have hR4 := h3.locked (.int .i32 1)
  have l2 : (w3.setCell ⟨L.wb, 0, none⟩ (.int .i32 1)).cell? ⟨L.wb, 2, none⟩ = some (.pointer (some ⟨L.nb, 0, none⟩)) := (World.cell?_setCell_other _ _ _ _ (by simp)).trans h3.l2
  rw [← cell_lock (x := L.wb) (v := .int .i32 1) (by omega)] at x0 x1 x2
  refine (lock_free Tryz.muLib ⟨L.wb, 0, none⟩ _ h3.l0 h3.lf).mono ?_
  rintro e w' ⟨rfl, rfl⟩
  have hun := fun s' w2 (hl : Leaves L (w3.setCell ⟨L.wb, 0, none⟩ (.int .i32 1)) s' w2) => h3.unlocked hl
  have HUN := hide hun
  generalize w3.setCell ⟨L.wb, 0, none⟩ (.int .i32 1) = w4 at *
  have hfls := refuse_any hR4 l2 hf i u
  rw [h0] at hfls
  have HFL := hide hfls
  have HR4 := hide hR4
  have hk0 : ((k : Int) != 0) = true := by rw [bne_iff_ne]; omega
  clear hun hfls h3 h hR4 h0
  have hmf : ∀ (fn : Fn) (first cap : Array Value) (w : World), (Instr.makeFunc fn first cap).run Tryz.prog w = .ok (.func fn first cap) w := fun _ _ _ _ => rfl
  go_wp2_with fail
  refine (unhide HFL).mono ?_
  rintro e w5 ⟨rfl, rfl⟩
  obtain ⟨k0, k2, kf, hLW⟩ := unhide HUN _ _ (Leaves.same (unhide HR4) (Below.refl _ _))
  have HLW := hide (hLW.below hb3)
  clear hLW
  go_wp2
  refine leaves_cons (f := 46) (args := #[.pointer (some ⟨L.wb, 0, none⟩)]) (by simp) (by simp [go_sem]) ?_
  refine (unlock_deferred Tryz.muLib ⟨L.wb, 0, none⟩ .returning _ k0 kf).mono ?_
  rintro e u' w'' ⟨rfl, rfl, rfl⟩
  exact ⟨_, results_tmp rfl _ _ _, rfl, unhide HLW⟩

theorem nodeE_cases (s : St) (n : Int) (u : Bool) : s.nodeE n u = 0 ∧ 0 ≤ n ∧ n ≤ s.parts ∧ s.up n.toNat = u ∨ s.nodeE n u = 1 ∨ s.nodeE n u = 2 := by
  unfold St.nodeE
  split
  · split
    · exact .inl ⟨rfl, by omega, by omega, ‹_›⟩
    · exact .inr (.inr rfl)
  · exact .inr (.inl rfl)


set_option maxRecDepth 100000 in
set_option maxHeartbeats 1000000 in
theorem tick_any {w : World} {L : Lay} {s : St} (h : RepW w L s) (hk : Ok s) (i : Int) :
    Calls Tryz.prog 26 #[.pointer (some ⟨L.wb, 0, none⟩), .int .i64 i] w fun e w' => e = .returned (.int .i64 ((s.tickP i).2 : Nat)) ∧ LeavesW L w (s.tickP i).1 w' := by
  have hmf : ∀ (fn : Fn) (first cap : Array Value) (w : World), (Instr.makeFunc fn first cap).run Tryz.prog w = .ok (.func fn first cap) w := fun _ _ _ _ => rfl
  rcases nodeE_cases s i true with ⟨h0, hi0, hi1, _⟩ | h0
  · obtain ⟨j, rfl⟩ : ∃ j : Nat, i = j := ⟨i.toNat, by omega⟩
    have hj : j ≤ s.parts := by omega
    have hP : s.tickP j = ((s.tick j).1, 0) := by
      unfold St.tickP
      rw [if_pos h0]
      simp
    have hwm := withNode_ok (r := s.tick j) (n := j) (f := 56) h hk.inv.wf (fun args w _ => run_callFunc_enter Tryz.func56 (by kernel_rfl) rfl args w) true h0 (fun w' hr => nodesTick_any hr hk j hj)
    have HP := hide hP
    have HW := hide hwm
    clear hP hwm h0
    go_enter Tryz.func26, Tryz.ntmps26
    go_wp2_with fail
    refine (unhide HW).mono ?_
    rintro e w1 ⟨rfl, hl⟩
    go_wp2
    go_ret
    rw [unhide HP]
    exact ⟨rfl, hl⟩
  · have hP : s.tickP i = (s, s.nodeE i true) := by unfold St.tickP; rw [if_neg (by omega)]
    have hwm := withNode_no (f := 56) h hk.inv.wf true _ rfl h0
    have HP := hide hP
    have HW := hide hwm
    clear hP hwm h0
    go_enter Tryz.func26, Tryz.ntmps26
    go_wp2_with fail
    refine (unhide HW).mono ?_
    rintro e w1 ⟨rfl, hl⟩
    go_wp2
    go_ret
    rw [unhide HP]
    exact ⟨rfl, hl⟩

set_option maxRecDepth 100000 in
set_option maxHeartbeats 1000000 in
theorem crash_any {w : World} {L : Lay} {s : St} (h : RepW w L s) (hk : Ok s) (i : Int) :
    Calls Tryz.prog 23 #[.pointer (some ⟨L.wb, 0, none⟩), .int .i64 i] w fun e w' => e = .returned (.int .i64 ((s.crashP i).2 : Nat)) ∧ LeavesW L w (s.crashP i).1 w' := by
  have hmf : ∀ (fn : Fn) (first cap : Array Value) (w : World), (Instr.makeFunc fn first cap).run Tryz.prog w = .ok (.func fn first cap) w := fun _ _ _ _ => rfl
  rcases nodeE_cases s i true with ⟨h0, hi0, hi1, _⟩ | h0
  · obtain ⟨j, rfl⟩ : ∃ j : Nat, i = j := ⟨i.toNat, by omega⟩
    have hj : j ≤ s.parts := by omega
    have hP : s.crashP j = (s.down j, 0) := by
      unfold St.crashP
      rw [if_pos h0]
      simp
    have hwm := withNode_ok (r := (s.down j, true)) (n := j) (f := 54) h hk.inv.wf (fun args w _ => run_callFunc_enter Tryz.func54 (by kernel_rfl) rfl args w) true h0 (fun w' hr => (nodesCrash_any hr hk.inv.p5 j hj).mono (fun e w2 h => Acts.retD h.1 h.2))
    have HP := hide hP
    have HW := hide hwm
    clear hP hwm h0
    go_enter Tryz.func23, Tryz.ntmps23
    go_wp2_with fail
    refine (unhide HW).mono ?_
    rintro e w1 ⟨rfl, hl⟩
    go_wp2
    go_ret
    rw [unhide HP]
    exact ⟨rfl, hl⟩
  · have hP : s.crashP i = (s, s.nodeE i true) := by unfold St.crashP; rw [if_neg (by omega)]
    have hwm := withNode_no (f := 54) h hk.inv.wf true _ rfl h0
    have HP := hide hP
    have HW := hide hwm
    clear hP hwm h0
    go_enter Tryz.func23, Tryz.ntmps23
    go_wp2_with fail
    refine (unhide HW).mono ?_
    rintro e w1 ⟨rfl, hl⟩
    go_wp2
    go_ret
    rw [unhide HP]
    exact ⟨rfl, hl⟩

set_option maxRecDepth 100000 in
set_option maxHeartbeats 1000000 in
theorem recover_any {w : World} {L : Lay} {s : St} (h : RepW w L s) (hk : Ok s) (i : Int) :
    Calls Tryz.prog 24 #[.pointer (some ⟨L.wb, 0, none⟩), .int .i64 i] w fun e w' => e = .returned (.int .i64 ((s.recoverP i).2 : Nat)) ∧ LeavesW L w (s.recoverP i).1 w' := by
  have hmf : ∀ (fn : Fn) (first cap : Array Value) (w : World), (Instr.makeFunc fn first cap).run Tryz.prog w = .ok (.func fn first cap) w := fun _ _ _ _ => rfl
  rcases nodeE_cases s i false with ⟨h0, hi0, hi1, _⟩ | h0
  · obtain ⟨j, rfl⟩ : ∃ j : Nat, i = j := ⟨i.toNat, by omega⟩
    have hj : j ≤ s.parts := by omega
    have hP : s.recoverP j = ((s.rcv j).1, 0) := by
      unfold St.recoverP
      rw [if_pos h0]
      simp
    have hwm := withNode_ok (r := s.rcv j) (n := j) (f := 55) h hk.inv.wf (fun args w _ => run_callFunc_enter Tryz.func55 (by kernel_rfl) rfl args w) false h0 (fun w' hr => nodesRecover_any hr hk j hj)
    have HP := hide hP
    have HW := hide hwm
    clear hP hwm h0
    go_enter Tryz.func24, Tryz.ntmps24
    go_wp2_with fail
    refine (unhide HW).mono ?_
    rintro e w1 ⟨rfl, hl⟩
    go_wp2
    go_ret
    rw [unhide HP]
    exact ⟨rfl, hl⟩
  · have hP : s.recoverP i = (s, s.nodeE i false) := by unfold St.recoverP; rw [if_neg (by omega)]
    have hwm := withNode_no (f := 55) h hk.inv.wf false _ rfl h0
    have HP := hide hP
    have HW := hide hwm
    clear hP hwm h0
    go_enter Tryz.func24, Tryz.ntmps24
    go_wp2_with fail
    refine (unhide HW).mono ?_
    rintro e w1 ⟨rfl, hl⟩
    go_wp2
    go_ret
    rw [unhide HP]
    exact ⟨rfl, hl⟩

end Go.Proofs.YtekbjlhbjcikdaaGreat
