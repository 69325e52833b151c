/-
  Walks of the face's calls with a message: Deliver, Drop, Double.
-/
import Derived.Test.YtekbjlhbjcikdaaGreatW20
import Derived.Test.YtekbjlhbjcikdaaGreatFace
import Derived.Deep.RegionHeld3
namespace Go.Proofs.YtekbjlhbjcikdaaGreat
open Go.RowKit Acc Go.MuLone

set_option maxRecDepth 100000 in
set_option maxHeartbeats 1000000 in
theorem withMessage_ok {w : World} {L : Lay} {s : St} {n f : Nat} {i : Int} {r : St × Bool} (h : RepW w L s) (hfl : s.fly.length ≤ 60) (hcf : ∀ (args : Array Value) (w : World), args.size = 2 → (callFunc f args).run Tryz.prog w = .ok (.enter f args) w)
    (h0 : 0 ≤ i) (h1 : i < s.fly.length) (hc : ∀ w', Rep w' L s → Calls Tryz.prog f #[.pointer (some ⟨L.nb, 0, none⟩), .int .i64 i] w' (Acts L w' n r)) :
    Calls Tryz.prog 60 #[.pointer (some ⟨L.wb, 0, none⟩), .int .i64 i, .func (Fn.func f) #[] #[]] w fun e w' => e = .returned (.int .i64 0) ∧ LeavesW L w r.1 w' := by
  have hwl := h.wlt
  go_enter_defers Tryz.func60, Tryz.ntmps60
  go_wp2_with fail
  have hb3 : Below w.heap.size w (((w.alloc (Obj.cells #[Value.pointer (some ⟨L.wb, 0, none⟩)] 37)).alloc (Obj.cells #[Value.int IntKind.i64 i] 3)).alloc (Obj.cells #[Value.func (Fn.func f) #[] #[]] 95)) := ((below_alloc _ _).more (below_alloc _ _)).more (below_alloc _ _)
  have x0 : (((w.alloc (Obj.cells #[Value.pointer (some ⟨L.wb, 0, none⟩)] 37)).alloc (Obj.cells #[Value.int IntKind.i64 i] 3)).alloc (Obj.cells #[Value.func (Fn.func f) #[] #[]] 95)).cell? ⟨w.heap.size, 0, none⟩ = some (.pointer (some ⟨L.wb, 0, none⟩)) := by simp [go_sem]
  have x1 : (((w.alloc (Obj.cells #[Value.pointer (some ⟨L.wb, 0, none⟩)] 37)).alloc (Obj.cells #[Value.int IntKind.i64 i] 3)).alloc (Obj.cells #[Value.func (Fn.func f) #[] #[]] 95)).cell? ⟨w.heap.size + 1, 0, none⟩ = some (.int .i64 i) := by simp [go_sem]
  have x2 : (((w.alloc (Obj.cells #[Value.pointer (some ⟨L.wb, 0, none⟩)] 37)).alloc (Obj.cells #[Value.int IntKind.i64 i] 3)).alloc (Obj.cells #[Value.func (Fn.func f) #[] #[]] 95)).cell? ⟨w.heap.size + 1 + 1, 0, none⟩ = some (.func (Fn.func f) #[] #[]) := by simp [go_sem]
  generalize (((w.alloc (Obj.cells #[Value.pointer (some ⟨L.wb, 0, none⟩)] 37)).alloc (Obj.cells #[Value.int IntKind.i64 i] 3)).alloc (Obj.cells #[Value.func (Fn.func f) #[] #[]] 95)) = w3 at *
  have h3 := h.below hb3
  have hR4 := h3.locked (.int .i32 1)
  have l2 : (w3.setCell ⟨L.wb, 0, none⟩ (.int .i32 1)).cell? ⟨L.wb, 2, none⟩ = some (.pointer (some ⟨L.nb, 0, none⟩)) := (World.cell?_setCell_other _ _ _ _ (by simp)).trans h3.l2
  rw [← cell_lock (x := L.wb) (v := .int .i32 1) (by omega)] at x0 x1 x2
  refine (lock_free Tryz.muLib ⟨L.wb, 0, none⟩ _ h3.l0 h3.lf).mono ?_
  rintro e w' ⟨rfl, rfl⟩
  have hun := fun s' w2 (hl : Leaves L (w3.setCell ⟨L.wb, 0, none⟩ (.int .i32 1)) s' w2) => h3.unlocked hl
  have HUN := hide hun
  generalize w3.setCell ⟨L.wb, 0, none⟩ (.int .i32 1) = w4 at *
  have hfls := nodesFlies_any (hR4.below (Below.refl _ _).drew) hfl i
  rw [show (decide (0 ≤ i) && decide (i < s.fly.length)) = true from by simp; omega] at hfls
  have HFL := hide hfls
  have hb5 : Below w4.heap.size w4 w4.drew.drew := (Below.refl _ _).drew.drew
  have huc := untilCrash_any (w := w4.drew) (n := n) (L := L) (r := r) (g := 94) (caps := #[.pointer (some ⟨w.heap.size + 1 + 1, 0, none⟩), .pointer (some ⟨w.heap.size, 0, none⟩), .pointer (some ⟨w.heap.size + 1, 0, none⟩)]) (fun w => run_callFunc_enter Tryz.func94 (by kernel_rfl) rfl _ w) (withMessage1_any hcf x2 x0 x1 l2 (hc _ (hR4.below hb5)))
  have HUC := hide huc
  have HC := hide hcf
  clear hun hfls huc hcf hc h3 h
  have hmf : ∀ (fn : Fn) (first cap : Array Value) (w : World), (Instr.makeFunc fn first cap).run Tryz.prog w = .ok (.func fn first cap) w := fun _ _ _ _ => rfl
  go_wp2_with fail
  go_region_held3 (fun w' => w'.cell? ⟨w.heap.size, 0, none⟩ = some (.pointer (some ⟨L.wb, 0, none⟩)) ∧ w'.cell? ⟨w.heap.size + 1, 0, none⟩ = some (.int .i64 i) ∧ w'.cell? ⟨L.wb, 2, none⟩ = some (.pointer (some ⟨L.nb, 0, none⟩))) (go_keep)
    (first
      | (go_at_call 93; refine (unhide HFL).mono ?_; rintro e w5 ⟨rfl, rfl⟩))
  go_wp2_with fail
  refine (unhide HUC).mono ?_
  rintro e w6 ⟨rfl, hl⟩
  obtain ⟨k0, k2, kf, hLW⟩ := unhide HUN _ _ (hl.below (Below.refl _ _).drew)
  have HLW := hide (hLW.below hb3)
  clear hLW hl
  go_wp2
  refine leaves_cons (f := 46) (args := #[.pointer (some ⟨L.wb, 0, none⟩)]) (by simp) (by simp [go_sem]) ?_
  refine (unlock_deferred Tryz.muLib ⟨L.wb, 0, none⟩ .returning _ k0 kf).mono ?_
  rintro e u' w'' ⟨rfl, rfl, rfl⟩
  exact ⟨_, results_tmp rfl _ _ _, rfl, unhide HLW⟩

set_option maxRecDepth 100000 in
set_option maxHeartbeats 1000000 in
theorem withMessage_none {w : World} {L : Lay} {s : St} {f : Nat} {i : Int} (h : RepW w L s) (hfl : s.fly.length ≤ 60) (h0 : ¬ (0 ≤ i ∧ i < s.fly.length)) :
    Calls Tryz.prog 60 #[.pointer (some ⟨L.wb, 0, none⟩), .int .i64 i, .func (Fn.func f) #[] #[]] w fun e w' => e = .returned (.int .i64 3) ∧ LeavesW L w s w' := by
  have hwl := h.wlt
  go_enter_defers Tryz.func60, Tryz.ntmps60
  go_wp2_with fail
  have hb3 : Below w.heap.size w (((w.alloc (Obj.cells #[Value.pointer (some ⟨L.wb, 0, none⟩)] 37)).alloc (Obj.cells #[Value.int IntKind.i64 i] 3)).alloc (Obj.cells #[Value.func (Fn.func f) #[] #[]] 95)) := ((below_alloc _ _).more (below_alloc _ _)).more (below_alloc _ _)
  have x0 : (((w.alloc (Obj.cells #[Value.pointer (some ⟨L.wb, 0, none⟩)] 37)).alloc (Obj.cells #[Value.int IntKind.i64 i] 3)).alloc (Obj.cells #[Value.func (Fn.func f) #[] #[]] 95)).cell? ⟨w.heap.size, 0, none⟩ = some (.pointer (some ⟨L.wb, 0, none⟩)) := by simp [go_sem]
  have x1 : (((w.alloc (Obj.cells #[Value.pointer (some ⟨L.wb, 0, none⟩)] 37)).alloc (Obj.cells #[Value.int IntKind.i64 i] 3)).alloc (Obj.cells #[Value.func (Fn.func f) #[] #[]] 95)).cell? ⟨w.heap.size + 1, 0, none⟩ = some (.int .i64 i) := by simp [go_sem]
  have x2 : (((w.alloc (Obj.cells #[Value.pointer (some ⟨L.wb, 0, none⟩)] 37)).alloc (Obj.cells #[Value.int IntKind.i64 i] 3)).alloc (Obj.cells #[Value.func (Fn.func f) #[] #[]] 95)).cell? ⟨w.heap.size + 1 + 1, 0, none⟩ = some (.func (Fn.func f) #[] #[]) := by simp [go_sem]
  generalize (((w.alloc (Obj.cells #[Value.pointer (some ⟨L.wb, 0, none⟩)] 37)).alloc (Obj.cells #[Value.int IntKind.i64 i] 3)).alloc (Obj.cells #[Value.func (Fn.func f) #[] #[]] 95)) = w3 at *
  have h3 := h.below hb3
  have hR4 := h3.locked (.int .i32 1)
  have l2 : (w3.setCell ⟨L.wb, 0, none⟩ (.int .i32 1)).cell? ⟨L.wb, 2, none⟩ = some (.pointer (some ⟨L.nb, 0, none⟩)) := (World.cell?_setCell_other _ _ _ _ (by simp)).trans h3.l2
  rw [← cell_lock (x := L.wb) (v := .int .i32 1) (by omega)] at x0 x1 x2
  refine (lock_free Tryz.muLib ⟨L.wb, 0, none⟩ _ h3.l0 h3.lf).mono ?_
  rintro e w' ⟨rfl, rfl⟩
  have hun := fun s' w2 (hl : Leaves L (w3.setCell ⟨L.wb, 0, none⟩ (.int .i32 1)) s' w2) => h3.unlocked hl
  have HUN := hide hun
  generalize w3.setCell ⟨L.wb, 0, none⟩ (.int .i32 1) = w4 at *
  have hfls := nodesFlies_any (hR4.below (Below.refl _ _).drew) hfl i
  rw [show (decide (0 ≤ i) && decide (i < s.fly.length)) = false from by simp; omega] at hfls
  have HFL := hide hfls
  have HR4 := hide hR4
  clear hun hfls h3 h hR4
  have hmf : ∀ (fn : Fn) (first cap : Array Value) (w : World), (Instr.makeFunc fn first cap).run Tryz.prog w = .ok (.func fn first cap) w := fun _ _ _ _ => rfl
  go_wp2_with fail
  go_region_held3 (fun w' => w'.cell? ⟨w.heap.size, 0, none⟩ = some (.pointer (some ⟨L.wb, 0, none⟩)) ∧ w'.cell? ⟨w.heap.size + 1, 0, none⟩ = some (.int .i64 i) ∧ w'.cell? ⟨L.wb, 2, none⟩ = some (.pointer (some ⟨L.nb, 0, none⟩))) (go_keep)
    (first
      | (go_at_call 93; refine (unhide HFL).mono ?_; rintro e w5 ⟨rfl, rfl⟩))
  obtain ⟨k0, k2, kf, hLW⟩ := unhide HUN _ _ (Leaves.same (unhide HR4) (Below.refl _ _).drew)
  have HLW := hide (hLW.below hb3)
  clear hLW
  go_wp2
  refine leaves_cons (f := 46) (args := #[.pointer (some ⟨L.wb, 0, none⟩)]) (by simp) (by simp [go_sem]) ?_
  refine (unlock_deferred Tryz.muLib ⟨L.wb, 0, none⟩ .returning _ k0 kf).mono ?_
  rintro e u' w'' ⟨rfl, rfl, rfl⟩
  exact ⟨_, results_tmp rfl _ _ _, rfl, unhide HLW⟩


set_option maxRecDepth 100000 in
set_option maxHeartbeats 1000000 in
theorem deliver_any {w : World} {L : Lay} {s : St} (h : RepW w L s) (hk : Ok s) (i : Int) :
    Calls Tryz.prog 34 #[.pointer (some ⟨L.wb, 0, none⟩), .int .i64 i] w fun e w' => e = .returned (.int .i64 ((s.deliverP i).2 : Nat)) ∧ LeavesW L w (s.deliverP i).1 w' := by
  have hmf : ∀ (fn : Fn) (first cap : Array Value) (w : World), (Instr.makeFunc fn first cap).run Tryz.prog w = .ok (.func fn first cap) w := fun _ _ _ _ => rfl
  by_cases h0 : 0 ≤ i ∧ i < s.fly.length
  · obtain ⟨j, rfl⟩ : ∃ j : Nat, i = j := ⟨i.toNat, by omega⟩
    have hj : j < s.fly.length := by omega
    have hx : s.fly[j]? = some s.fly[j] := List.getElem?_eq_getElem _
    generalize s.fly[j] = m at hx
    have hP : s.deliverP j = ((s.come j m).1, 0) := by
      unfold St.deliverP
      rw [if_pos h0]
      simp [St.dlv, hx]
    have hwm := withMessage_ok (r := s.come j m) (n := m.to) (f := 64) h hk.inv.fl (fun args w _ => run_callFunc_enter Tryz.func64 (by kernel_rfl) rfl args w) h0.1 h0.2 (fun w' hr => nodesDeliver_any hr hk.inv j m hx)
    have HP := hide hP
    have HW := hide hwm
    clear hP hwm h0
    go_enter Tryz.func34, Tryz.ntmps34
    go_wp2_with fail
    refine (unhide HW).mono ?_
    rintro e w1 ⟨rfl, hl⟩
    go_wp2
    go_ret
    rw [unhide HP]
    exact ⟨rfl, hl⟩
  · have hP : s.deliverP i = (s, 3) := by unfold St.deliverP; rw [if_neg h0]
    have hwm := withMessage_none (f := 64) h hk.inv.fl h0
    have HP := hide hP
    have HW := hide hwm
    clear hP hwm h0
    go_enter Tryz.func34, Tryz.ntmps34
    go_wp2_with fail
    refine (unhide HW).mono ?_
    rintro e w1 ⟨rfl, hl⟩
    go_wp2
    go_ret
    rw [unhide HP]
    exact ⟨rfl, hl⟩

set_option maxRecDepth 100000 in
set_option maxHeartbeats 1000000 in
theorem drop_any {w : World} {L : Lay} {s : St} (h : RepW w L s) (hk : Ok s) (i : Int) :
    Calls Tryz.prog 30 #[.pointer (some ⟨L.wb, 0, none⟩), .int .i64 i] w fun e w' => e = .returned (.int .i64 ((s.dropP i).2 : Nat)) ∧ LeavesW L w (s.dropP i).1 w' := by
  have hmf : ∀ (fn : Fn) (first cap : Array Value) (w : World), (Instr.makeFunc fn first cap).run Tryz.prog w = .ok (.func fn first cap) w := fun _ _ _ _ => rfl
  by_cases h0 : 0 ≤ i ∧ i < s.fly.length
  · obtain ⟨j, rfl⟩ : ∃ j : Nat, i = j := ⟨i.toNat, by omega⟩
    have hj : j < s.fly.length := by omega
    have hx : s.fly[j]? = some s.fly[j] := List.getElem?_eq_getElem _
    generalize s.fly[j] = m at hx
    have hP : s.dropP j = (s.drop j, 0) := by
      unfold St.dropP
      rw [if_pos h0]
      simp
    have hwm := withMessage_ok (r := (s.drop j, true)) (n := 0) (f := 61) h hk.inv.fl (fun args w _ => run_callFunc_enter Tryz.func61 (by kernel_rfl) rfl args w) h0.1 h0.2 (fun w' hr => nodesDrop_any hr hk.inv.fl j m hx)
    have HP := hide hP
    have HW := hide hwm
    clear hP hwm h0
    go_enter Tryz.func30, Tryz.ntmps30
    go_wp2_with fail
    refine (unhide HW).mono ?_
    rintro e w1 ⟨rfl, hl⟩
    go_wp2
    go_ret
    rw [unhide HP]
    exact ⟨rfl, hl⟩
  · have hP : s.dropP i = (s, 3) := by unfold St.dropP; rw [if_neg h0]
    have hwm := withMessage_none (f := 61) h hk.inv.fl h0
    have HP := hide hP
    have HW := hide hwm
    clear hP hwm h0
    go_enter Tryz.func30, Tryz.ntmps30
    go_wp2_with fail
    refine (unhide HW).mono ?_
    rintro e w1 ⟨rfl, hl⟩
    go_wp2
    go_ret
    rw [unhide HP]
    exact ⟨rfl, hl⟩

set_option maxRecDepth 100000 in
set_option maxHeartbeats 1000000 in
theorem double_any {w : World} {L : Lay} {s : St} (h : RepW w L s) (hk : Ok s) (i : Int) :
    Calls Tryz.prog 82 #[.pointer (some ⟨L.wb, 0, none⟩), .int .i64 i] w fun e w' => e = .returned (.int .i64 ((s.doubleP i).2 : Nat)) ∧ LeavesW L w (s.doubleP i).1 w' := by
  have hmf : ∀ (fn : Fn) (first cap : Array Value) (w : World), (Instr.makeFunc fn first cap).run Tryz.prog w = .ok (.func fn first cap) w := fun _ _ _ _ => rfl
  by_cases h0 : 0 ≤ i ∧ i < s.fly.length
  · obtain ⟨j, rfl⟩ : ∃ j : Nat, i = j := ⟨i.toNat, by omega⟩
    have hj : j < s.fly.length := by omega
    have hx : s.fly[j]? = some s.fly[j] := List.getElem?_eq_getElem _
    generalize s.fly[j] = m at hx
    have hP : s.doubleP j = (s.send m, 0) := by
      unfold St.doubleP
      rw [if_pos h0]
      simp [St.dbl, hx]
    have hwm := withMessage_ok (r := (s.send m, true)) (n := 0) (f := 120) h hk.inv.fl (fun args w _ => run_callFunc_enter Tryz.func120 (by kernel_rfl) rfl args w) h0.1 h0.2 (fun w' hr => nodesDouble_any hr hk.inv.fl j m hx)
    have HP := hide hP
    have HW := hide hwm
    clear hP hwm h0
    go_enter Tryz.func82, Tryz.ntmps82
    go_wp2_with fail
    refine (unhide HW).mono ?_
    rintro e w1 ⟨rfl, hl⟩
    go_wp2
    go_ret
    rw [unhide HP]
    exact ⟨rfl, hl⟩
  · have hP : s.doubleP i = (s, 3) := by unfold St.doubleP; rw [if_neg h0]
    have hwm := withMessage_none (f := 120) h hk.inv.fl h0
    have HP := hide hP
    have HW := hide hwm
    clear hP hwm h0
    go_enter Tryz.func82, Tryz.ntmps82
    go_wp2_with fail
    refine (unhide HW).mono ?_
    rintro e w1 ⟨rfl, hl⟩
    go_wp2
    go_ret
    rw [unhide HP]
    exact ⟨rfl, hl⟩

end Go.Proofs.YtekbjlhbjcikdaaGreat
