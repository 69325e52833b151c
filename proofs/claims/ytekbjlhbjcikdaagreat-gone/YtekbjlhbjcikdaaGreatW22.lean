/-
  Walks of the face's calls with a node: Tick, Crash, Recover, Fuse, Up.
-/
import Derived.Test.YtekbjlhbjcikdaaGreatW21
namespace Go.Proofs.YtekbjlhbjcikdaaGreat
open Go.RowKit Acc Go.MuLone

theorem Rep.drewn {w : World} {L : Lay} {s : St} (h : Rep w L s) : Rep w.drew L s := h.below (Below.refl _ _).drew

set_option maxRecDepth 100000 in
set_option maxHeartbeats 1000000 in
theorem refuse_any {w : World} {L : Lay} {s : St} (h : Rep w L s) (l2 : w.cell? ⟨L.wb, 2, none⟩ = some (.pointer (some ⟨L.nb, 0, none⟩))) (hf : Wf s) (n : Int) (u : Bool) :
    Calls Tryz.prog 73 #[.pointer (some ⟨L.wb, 0, none⟩), .int .i64 n, .bool u] w fun e w' => e = .returned (.int .i64 (s.nodeE n u : Nat)) ∧ w' = w := by
  have hha := hide (nodesHas_any h hf n)
  by_cases h0 : 0 ≤ n ∧ n ≤ s.parts
  · obtain ⟨j, rfl⟩ : ∃ j : Nat, n = j := ⟨n.toNat, by omega⟩
    have hj : j ≤ s.parts := by omega
    have hd : Hid ((decide (0 ≤ (j : Int)) && decide ((j : Int) < s.parts + 1)) = true) := by show _ = _; simp; omega
    have hup := nodesUp_any h hf.p5 j hj
    cases hb : s.up j with
    | true =>
      rw [hb] at hup
      have HUP := hide hup
      cases u with
      | true =>
        have hP : Hid (s.nodeE j true = 0) := by show _ = _; unfold St.nodeE; rw [if_pos h0]; simp [hb]
        clear h0 hb hup
        go_enter Tryz.func73, Tryz.ntmps73
        go_wp2_with (first
          | (go_at_call 47; refine (unhide hha).mono ?_; rintro e w1 ⟨rfl, rfl⟩; rw [unhide hd])
          | (go_at_call 52; refine (unhide HUP).mono ?_; rintro e w1 ⟨rfl, rfl⟩))
        go_ret
        exact ⟨by rw [unhide hP]; rfl, rfl⟩
      | false =>
        have hP : Hid (s.nodeE j false = 2) := by show _ = _; unfold St.nodeE; rw [if_pos h0]; simp [hb]
        clear h0 hb hup
        go_enter Tryz.func73, Tryz.ntmps73
        go_wp2_with (first
          | (go_at_call 47; refine (unhide hha).mono ?_; rintro e w1 ⟨rfl, rfl⟩; rw [unhide hd])
          | (go_at_call 52; refine (unhide HUP).mono ?_; rintro e w1 ⟨rfl, rfl⟩))
        go_ret
        exact ⟨by rw [unhide hP]; rfl, rfl⟩
    | false =>
      rw [hb] at hup
      have HUP := hide hup
      cases u with
      | true =>
        have hP : Hid (s.nodeE j true = 2) := by show _ = _; unfold St.nodeE; rw [if_pos h0]; simp [hb]
        clear h0 hb hup
        go_enter Tryz.func73, Tryz.ntmps73
        go_wp2_with (first
          | (go_at_call 47; refine (unhide hha).mono ?_; rintro e w1 ⟨rfl, rfl⟩; rw [unhide hd])
          | (go_at_call 52; refine (unhide HUP).mono ?_; rintro e w1 ⟨rfl, rfl⟩))
        go_ret
        exact ⟨by rw [unhide hP]; rfl, rfl⟩
      | false =>
        have hP : Hid (s.nodeE j false = 0) := by show _ = _; unfold St.nodeE; rw [if_pos h0]; simp [hb]
        clear h0 hb hup
        go_enter Tryz.func73, Tryz.ntmps73
        go_wp2_with (first
          | (go_at_call 47; refine (unhide hha).mono ?_; rintro e w1 ⟨rfl, rfl⟩; rw [unhide hd])
          | (go_at_call 52; refine (unhide HUP).mono ?_; rintro e w1 ⟨rfl, rfl⟩))
        go_ret
        exact ⟨by rw [unhide hP]; rfl, rfl⟩
  · have hd : Hid ((decide (0 ≤ n) && decide (n < s.parts + 1)) = false) := by show _ = _; simp; omega
    have hP : Hid (s.nodeE n u = 1) := by show _ = _; unfold St.nodeE; rw [if_neg h0]
    clear h0
    go_enter Tryz.func73, Tryz.ntmps73
    go_wp2_with (first
      | (go_at_call 47; refine (unhide hha).mono ?_; rintro e w1 ⟨rfl, rfl⟩; rw [unhide hd]))
    go_ret
    exact ⟨by rw [unhide hP]; rfl, rfl⟩

set_option maxRecDepth 100000 in
set_option maxHeartbeats 1000000 in
theorem withNode1_any {w : World} {L : Lay} {n f b0 b1 b2 : Nat} {i : Int} {r : St × Bool} (hcf : ∀ (args : Array Value) (w : World), args.size = 2 → (callFunc f args).run Tryz.prog w = .ok (.enter f args) w)
    (c0 : w.cell? ⟨b0, 0, none⟩ = some (.func (Fn.func f) #[] #[])) (c1 : w.cell? ⟨b1, 0, none⟩ = some (.pointer (some ⟨L.wb, 0, none⟩))) (c2 : w.cell? ⟨b2, 0, none⟩ = some (.int .i64 i)) (l2 : w.cell? ⟨L.wb, 2, none⟩ = some (.pointer (some ⟨L.nb, 0, none⟩)))
    (h : Calls Tryz.prog f #[.pointer (some ⟨L.nb, 0, none⟩), .int .i64 i] w.drew (Acts L w.drew n r)) :
    Calls Tryz.prog 86 #[.pointer (some ⟨b0, 0, none⟩), .pointer (some ⟨b1, 0, none⟩), .pointer (some ⟨b2, 0, none⟩)] w (Acts L w n r) := by
  have hcf2 : ∀ (a b : Value) (w : World), (callFunc f #[a, b]).run Tryz.prog w = .ok (.enter f #[a, b]) w := fun a b w => hcf _ w rfl
  have HC := hide h
  clear h hcf
  go_enter Tryz.func86, Tryz.ntmps86
  go_wp2_with fail
  go_region_dies
  all_goals
    rename_i K hK
    refine (unhide HC).mono ?_
    intro e w1 ha
    have ha2 := ha.below (Below.refl _ _).drew
    rcases ha.cases with ⟨hr, rfl, hl⟩ | ⟨hr, rfl, hl⟩
    · refine hK _ _ ?_
      refine wpAny_done (by kernel_rfl) ?_ _
      go_end0
      exact ha2
    · exact ⟨rfl, ha2⟩


set_option maxRecDepth 100000 in
set_option maxHeartbeats 1000000 in
theorem withNode_ok {w : World} {L : Lay} {s : St} {n f : Nat} {i : Int} {r : St × Bool} (h : RepW w L s) (hf : Wf s) (hcf : ∀ (args : Array Value) (w : World), args.size = 2 → (callFunc f args).run Tryz.prog w = .ok (.enter f args) w)
    (u : Bool) (h0 : s.nodeE i u = 0) (hc : ∀ w', Rep w' L s → Calls Tryz.prog f #[.pointer (some ⟨L.nb, 0, none⟩), .int .i64 i] w' (Acts L w' n r)) :
    Calls Tryz.prog 53 #[.pointer (some ⟨L.wb, 0, none⟩), .int .i64 i, .bool u, .func (Fn.func f) #[] #[]] w fun e w' => e = .returned (.int .i64 0) ∧ LeavesW L w r.1 w' := by
  have hwl := h.wlt
  go_enter_defers Tryz.func53, Tryz.ntmps53
  go_wp2_with fail
  have hb3 : Below w.heap.size w (((w.alloc (Obj.cells #[Value.pointer (some ⟨L.wb, 0, none⟩)] 37)).alloc (Obj.cells #[Value.int IntKind.i64 i] 3)).alloc (Obj.cells #[Value.func (Fn.func f) #[] #[]] 95)) := ((below_alloc _ _).more (below_alloc _ _)).more (below_alloc _ _)
  have x0 : (((w.alloc (Obj.cells #[Value.pointer (some ⟨L.wb, 0, none⟩)] 37)).alloc (Obj.cells #[Value.int IntKind.i64 i] 3)).alloc (Obj.cells #[Value.func (Fn.func f) #[] #[]] 95)).cell? ⟨w.heap.size, 0, none⟩ = some (.pointer (some ⟨L.wb, 0, none⟩)) := by simp [go_sem]
  have x1 : (((w.alloc (Obj.cells #[Value.pointer (some ⟨L.wb, 0, none⟩)] 37)).alloc (Obj.cells #[Value.int IntKind.i64 i] 3)).alloc (Obj.cells #[Value.func (Fn.func f) #[] #[]] 95)).cell? ⟨w.heap.size + 1, 0, none⟩ = some (.int .i64 i) := by simp [go_sem]
  have x2 : (((w.alloc (Obj.cells #[Value.pointer (some ⟨L.wb, 0, none⟩)] 37)).alloc (Obj.cells #[Value.int IntKind.i64 i] 3)).alloc (Obj.cells #[Value.func (Fn.func f) #[] #[]] 95)).cell? ⟨w.heap.size + 1 + 1, 0, none⟩ = some (.func (Fn.func f) #[] #[]) := by simp [go_sem]
  generalize (((w.alloc (Obj.cells #[Value.pointer (some ⟨L.wb, 0, none⟩)] 37)).alloc (Obj.cells #[Value.int IntKind.i64 i] 3)).alloc (Obj.cells #[Value.func (Fn.func f) #[] #[]] 95)) = w3 at *
  have h3 := h.below hb3
  have hR4 := h3.locked (.int .i32 1)
  have l2 : (w3.setCell ⟨L.wb, 0, none⟩ (.int .i32 1)).cell? ⟨L.wb, 2, none⟩ = some (.pointer (some ⟨L.nb, 0, none⟩)) := (World.cell?_setCell_other _ _ _ _ (by simp)).trans h3.l2
  rw [← cell_lock (x := L.wb) (v := .int .i32 1) (by omega)] at x0 x1 x2
  refine (lock_free Tryz.muLib ⟨L.wb, 0, none⟩ _ h3.l0 h3.lf).mono ?_
  rintro e w' ⟨rfl, rfl⟩
  have hun := fun s' w2 (hl : Leaves L (w3.setCell ⟨L.wb, 0, none⟩ (.int .i32 1)) s' w2) => h3.unlocked hl
  have HUN := hide hun
  generalize w3.setCell ⟨L.wb, 0, none⟩ (.int .i32 1) = w4 at *
  have hfls := refuse_any hR4 l2 hf i u
  rw [h0] at hfls
  have HFL := hide hfls
  have hb5 : Below w4.heap.size w4 w4.drew := (Below.refl _ _).drew
  have huc := untilCrash_any (w := w4) (n := n) (L := L) (r := r) (g := 86) (caps := #[.pointer (some ⟨w.heap.size + 1 + 1, 0, none⟩), .pointer (some ⟨w.heap.size, 0, none⟩), .pointer (some ⟨w.heap.size + 1, 0, none⟩)]) (fun w => run_callFunc_enter Tryz.func86 (by kernel_rfl) rfl _ w) (withNode1_any hcf x2 x0 x1 l2 (hc _ (hR4.below hb5)))
  have HUC := hide huc
  have HC := hide hcf
  clear hun hfls huc hcf hc h3 h
  have hmf : ∀ (fn : Fn) (first cap : Array Value) (w : World), (Instr.makeFunc fn first cap).run Tryz.prog w = .ok (.func fn first cap) w := fun _ _ _ _ => rfl
  go_wp2_with fail
  refine (unhide HFL).mono ?_
  rintro e w5 ⟨rfl, rfl⟩
  go_wp2_with fail
  refine (unhide HUC).mono ?_
  rintro e w6 ⟨rfl, hl⟩
  obtain ⟨k0, k2, kf, hLW⟩ := unhide HUN _ _ hl
  have HLW := hide (hLW.below hb3)
  clear hLW hl
  go_wp2
  refine leaves_cons (f := 46) (args := #[.pointer (some ⟨L.wb, 0, none⟩)]) (by simp) (by simp [go_sem]) ?_
  refine (unlock_deferred Tryz.muLib ⟨L.wb, 0, none⟩ .returning _ k0 kf).mono ?_
  rintro e u' w'' ⟨rfl, rfl, rfl⟩
  exact ⟨_, results_tmp rfl _ _ _, rfl, unhide HLW⟩


end Go.Proofs.YtekbjlhbjcikdaaGreat
