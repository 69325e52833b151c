/-
  Walks of the face's calls: Flying, State, Value, Deliver, Begin.
-/
import Derived.Test.YtckmknofciejeaaW14
import Derived.Test.YtckmknofciejeaaW2
import Derived.Defers
namespace Go.Proofs.Ytckmknofciejeaa
open Go.RowKit Acc Go.MuLone

def own2 (L : Lay) : Nat → Option Tag := fun b => if b = L.wb then some .world else L.own b

/-- A world of the program's, in memory, its lock free. -/
structure RepW (w : World) (L : Lay) (s : St) : Prop where
  rep : Rep w L s
  l0 : w.cell? ⟨L.wb, 0, none⟩ = some (.int .i32 0)
  l2 : w.cell? ⟨L.wb, 2, none⟩ = some (.pointer (some ⟨L.nb, 0, none⟩))
  lf : w.frozen? ⟨L.wb, 0, none⟩ = false
  fr : L.own L.wb = none

def LeavesW (L : Lay) (w : World) (s' : St) (w' : World) : Prop := ∃ L', L'.wb = L.wb ∧ L'.nb = L.nb ∧ RepW w' L' s' ∧ Ext (own2 L) w (own2 L') w'

theorem RepW.wlt {w : World} {L : Lay} {s : St} (h : RepW w L s) : L.wb < w.heap.size := World.block_lt_of_cell? w _ h.l0

/-- The lock is taken. -/
theorem RepW.locked {w : World} {L : Lay} {s : St} (h : RepW w L s) (v : Value) : Rep (w.setCell ⟨L.wb, 0, none⟩ v) L s :=
  h.rep.frame (by simp [World.setCell]) fun b t hb => block_setCell (fun e => by simp only at e; rw [e, h.fr] at hb; cases hb)

/-- What a call under the lock leaves, behind the unlocking. -/
theorem RepW.unlocked {w w2 : World} {L : Lay} {s s' : St} (h : RepW w L s) (hl : Leaves L (w.setCell ⟨L.wb, 0, none⟩ (.int .i32 1)) s' w2) :
    w2.cell? ⟨L.wb, 0, none⟩ = some (.int .i32 1) ∧ w2.cell? ⟨L.wb, 2, none⟩ = some (.pointer (some ⟨L.nb, 0, none⟩)) ∧ w2.frozen? ⟨L.wb, 0, none⟩ = false ∧ LeavesW L w s' (w2.setCell ⟨L.wb, 0, none⟩ (.int .i32 0)) := by
  obtain ⟨L', e1, e2, hR, hE⟩ := hl
  have hlt : L.wb < (w.setCell ⟨L.wb, 0, none⟩ (.int .i32 1)).heap.size := by have := h.wlt; simpa [World.setCell] using this
  obtain ⟨hk, hn⟩ := hE.keep L.wb hlt h.fr
  have c0 : w2.cell? ⟨L.wb, 0, none⟩ = some (.int .i32 1) := (World.cell?_of_block (a := ⟨L.wb, 0, none⟩) hk).trans (World.cell?_setCell_same _ _ _ h.l0)
  have c2 : w2.cell? ⟨L.wb, 2, none⟩ = some (.pointer (some ⟨L.nb, 0, none⟩)) := (World.cell?_of_block (a := ⟨L.wb, 2, none⟩) hk).trans ((World.cell?_setCell_other _ _ _ _ (by simp)).trans h.l2)
  have f0 : w2.frozen? ⟨L.wb, 0, none⟩ = false := (World.frozen?_of_block (a := ⟨L.wb, 0, none⟩) hk).trans (by simpa using h.lf)
  refine ⟨c0, c2, f0, L', e1, e2, ⟨?_, ?_, ?_, ?_, ?_⟩, ?_⟩
  · refine hR.frame (by simp [World.setCell]) fun b t hb => block_setCell (fun e => ?_)
    simp only at e
    rw [e, hn] at hb; cases hb
  · rw [e1]; exact World.cell?_setCell_same _ _ _ c0
  · rw [e1, e2]; exact (World.cell?_setCell_other _ _ _ _ (by simp)).trans c2
  · rw [e1]; simpa using f0
  · rw [e1]; exact hn
  · refine ⟨hE.os, hE.tape, hE.output, by have := hE.size; simpa [World.setCell] using this, fun b hb ho => ?_⟩
    unfold own2 at ho
    split at ho
    · cases ho
    · rename_i hbw
      have hb' : b < (w.setCell ⟨L.wb, 0, none⟩ (.int .i32 1)).heap.size := by simpa [World.setCell] using hb
      obtain ⟨k1, k2⟩ := hE.keep b hb' ho
      refine ⟨?_, ?_⟩
      · rw [block_setCell hbw, k1, block_setCell hbw]
      · unfold own2; rw [e1, if_neg hbw]; exact k2

theorem Leaves.same {L : Lay} {w w' : World} {s : St} (h : Rep w L s) (hb : Below w.heap.size w w') : Leaves L w s w' := ⟨L, rfl, rfl, h.below hb, Ext.of_below hb⟩

set_option maxRecDepth 100000 in
set_option maxHeartbeats 1000000 in
theorem flying_any {w : World} {L : Lay} {s : St} (h : RepW w L s) (hfl : s.fly.length ≤ 60) :
    Calls Try.prog 8 #[.pointer (some ⟨L.wb, 0, none⟩)] w fun e w' => ∃ a cap, e = .returned (.slice a s.fly.length cap) ∧ LeavesW L w s w' ∧
      w'.ownsRow w.heap.size 83 4 (.slice a s.fly.length cap) s.fly.length (msgCells s.fly) := by
  have l0 := h.l0
  have lf := h.lf
  have l2 := h.l2
  have hR1 := h.locked (.int .i32 1)
  have hfn := hide (nodesFlying_any hR1 hfl)
  have hwl := h.wlt
  go_enter_defers Try.func8, Try.ntmps8
  go_wp2_with (first
    | (go_at_call 15; refine (lock_free Try.muLib ⟨L.wb, 0, none⟩ _ l0 lf).mono ?_; rintro e w' ⟨rfl, rfl⟩)
    | (go_at_call 21; refine (unhide hfn).mono ?_; rintro e w2 ⟨a, cap, rfl, hb, hown⟩))
  obtain ⟨k0, k2, kf, hLW⟩ := h.unlocked (Leaves.same hR1 hb)
  refine leaves_cons (f := 16) (args := #[.pointer (some ⟨L.wb, 0, none⟩)]) (by simp) (by simp [go_sem]) ?_
  refine (unlock_deferred Try.muLib ⟨L.wb, 0, none⟩ .returning _ k0 kf).mono ?_
  rintro e u' w'' ⟨rfl, rfl, rfl⟩
  refine ⟨_, results_tmp rfl _ _ _, a, cap, rfl, hLW, ?_⟩
  have hown' : w2.ownsRow w.heap.size 83 4 (.slice a s.fly.length cap) s.fly.length (msgCells s.fly) := by simpa [World.setCell] using hown
  exact ownsRow_setCell_below hown' hwl _

set_option maxRecDepth 100000 in
set_option maxHeartbeats 1000000 in
theorem deliver_any {w : World} {L : Lay} {s : St} (h : RepW w L s) (hf : Wf s) (hs : Sm s) (hg : Good s) (i : Nat) (hi : i < s.fly.length) :
    Calls Try.prog 9 #[.pointer (some ⟨L.wb, 0, none⟩), .int .i64 i] w fun e w' => e = .returned (.int .i64 0) ∧ LeavesW L w (s.deliver i) w' := by
  have l0 := h.l0
  have lf := h.lf
  have l2 := h.l2
  have hR1 := h.locked (.int .i32 1)
  have hfl := nodesFlies_any hR1 hg.fl i
  rw [show (decide (0 ≤ (i : Int)) && decide ((i : Int) < s.fly.length)) = true from by simp; omega] at hfl
  have HFL := hide hfl
  have hfn := hide (nodesDeliver_any hR1 hf hs hg i hi)
  clear hfl
  go_enter_defers Try.func9, Try.ntmps9
  go_wp2_with (first
    | (go_at_call 15; refine (lock_free Try.muLib ⟨L.wb, 0, none⟩ _ l0 lf).mono ?_; rintro e w' ⟨rfl, rfl⟩)
    | (go_at_call 22; refine (unhide HFL).mono ?_; rintro e w2 ⟨rfl, rfl⟩)
    | (go_at_call 23; refine (unhide hfn).mono ?_; rintro e w2 ⟨rfl, hl⟩))
  obtain ⟨k0, k2, kf, hLW⟩ := h.unlocked hl
  refine leaves_cons (f := 16) (args := #[.pointer (some ⟨L.wb, 0, none⟩)]) (by simp) (by simp [go_sem]) ?_
  refine (unlock_deferred Try.muLib ⟨L.wb, 0, none⟩ .returning _ k0 kf).mono ?_
  rintro e u' w'' ⟨rfl, rfl, rfl⟩
  exact ⟨_, results_tmp rfl _ _ _, rfl, hLW⟩

set_option maxRecDepth 100000 in
set_option maxHeartbeats 1000000 in
theorem state_any {w : World} {L : Lay} {s : St} (h : RepW w L s) (hf : Wf s) (n t : Nat) (hn : n ≤ s.parts) (h1 : 1 ≤ t) (h2 : t ≤ s.deals.length) :
    Calls Try.prog 12 #[.pointer (some ⟨L.wb, 0, none⟩), .int .i64 n, .int .i64 t] w fun e w' => e = .returned (.tuple #[.int .i64 (s.state n t), .int .i64 0]) ∧ LeavesW L w s w' := by
  have l0 := h.l0
  have lf := h.lf
  have l2 := h.l2
  have hR1 := h.locked (.int .i32 1)
  have hha := nodesHas_any hR1 hf n
  rw [show (decide (0 ≤ (n : Int)) && decide ((n : Int) < s.parts + 1)) = true from by simp; omega] at hha
  have HHA := hide hha
  have hht := nodesHasTrans_any hR1 hf t
  rw [show (decide (1 ≤ (t : Int)) && decide ((t : Int) ≤ s.deals.length)) = true from by simp; omega] at hht
  have HHT := hide hht
  have hfn := hide (nodesState_any hR1 n t hn hf.p5 (hf.ll n hn))
  clear hha hht
  go_enter_defers Try.func12, Try.ntmps12
  go_wp2_with (first
    | (go_at_call 15; refine (lock_free Try.muLib ⟨L.wb, 0, none⟩ _ l0 lf).mono ?_; rintro e w' ⟨rfl, rfl⟩)
    | (go_at_call 24; refine (unhide HHA).mono ?_; rintro e w2 ⟨rfl, rfl⟩)
    | (go_at_call 25; refine (unhide HHT).mono ?_; rintro e w2 ⟨rfl, rfl⟩)
    | (go_at_call 26; refine (unhide hfn).mono ?_; rintro e w2 ⟨rfl, rfl⟩))
  obtain ⟨k0, k2, kf, hLW⟩ := h.unlocked (Leaves.same hR1 (Below.refl _ _))
  refine leaves_cons (f := 16) (args := #[.pointer (some ⟨L.wb, 0, none⟩)]) (by simp) (by simp [go_sem]) ?_
  refine (unlock_deferred Try.muLib ⟨L.wb, 0, none⟩ .returning _ k0 kf).mono ?_
  rintro e u' w'' ⟨rfl, rfl, rfl⟩
  exact ⟨_, results_tmp2 rfl _ _ _, rfl, hLW⟩

set_option maxRecDepth 100000 in
set_option maxHeartbeats 1000000 in
theorem value_any {w : World} {L : Lay} {s : St} (h : RepW w L s) (hf : Wf s) (n k : Nat) (hn : n ≤ s.parts) (h1 : 1 ≤ n) (hk : k < 4) :
    Calls Try.prog 13 #[.pointer (some ⟨L.wb, 0, none⟩), .int .i64 n, .int .i64 k] w fun e w' => e = .returned (.tuple #[.int .i64 (s.value n k), .int .i64 0]) ∧ LeavesW L w s w' := by
  have l0 := h.l0
  have lf := h.lf
  have l2 := h.l2
  have hR1 := h.locked (.int .i32 1)
  have hha := nodesHasKey_any hR1 hf n k
  rw [show (decide (1 ≤ (n : Int)) && decide ((n : Int) < s.parts + 1) && (decide (0 ≤ (k : Int)) && decide ((k : Int) < 4))) = true from by simp; omega] at hha
  have HHA := hide hha
  have hfn := hide (nodesValue_any hR1 hf n k hn)
  clear hha
  go_enter_defers Try.func13, Try.ntmps13
  go_wp2_with (first
    | (go_at_call 15; refine (lock_free Try.muLib ⟨L.wb, 0, none⟩ _ l0 lf).mono ?_; rintro e w' ⟨rfl, rfl⟩)
    | (go_at_call 27; refine (unhide HHA).mono ?_; rintro e w2 ⟨rfl, rfl⟩)
    | (go_at_call 28; refine (unhide hfn).mono ?_; rintro e w2 ⟨rfl, hb⟩))
  obtain ⟨k0, k2, kf, hLW⟩ := h.unlocked (Leaves.same hR1 hb)
  refine leaves_cons (f := 16) (args := #[.pointer (some ⟨L.wb, 0, none⟩)]) (by simp) (by simp [go_sem]) ?_
  refine (unlock_deferred Try.muLib ⟨L.wb, 0, none⟩ .returning _ k0 kf).mono ?_
  rintro e u' w'' ⟨rfl, rfl, rfl⟩
  exact ⟨_, results_tmp2 rfl _ _ _, rfl, hLW⟩

theorem WrAt.setCell {w : World} {a : Option Addr} {ws : List Wr} (h : WrAt w a ws) (p : Addr) (hp : ∀ ad, a = some ad → ad.block ≠ p.block) (v : Value) : WrAt (w.setCell p v) a ws := by
  rcases h with h | ⟨g, o, ha, hg, hc⟩
  · exact .inl h
  · have hne : g ≠ p.block := hp _ ha
    refine .inr ⟨g, o, ha, by simpa [World.setCell] using hg, fun i x hx => ?_⟩
    obtain ⟨h0, h1, h2⟩ := hc i x hx
    have e : ∀ k, (w.setCell p v).cell? ⟨g, k, none⟩ = w.cell? ⟨g, k, none⟩ := fun k => World.cell?_of_block (a := ⟨g, k, none⟩) (block_setCell hne)
    exact ⟨(e _).trans h0, (e _).trans h1, (e _).trans h2⟩

set_option maxRecDepth 100000 in
set_option maxHeartbeats 1000000 in
theorem begin_any {w : World} {L : Lay} {s : St} (h : RepW w L s) (hf : Wf s) (hs : Sm s) (hd : s.deals.length < 12) (a : Option Addr) (n cap : Nat) (ws : List Wr) (hn : ws.length = n) (hc : n ≤ cap) (hw : WrAt w a ws) (hwa : ∀ ad, a = some ad → ad.block ≠ L.wb) (hso : soundB ws s.parts = true) :
    Calls Try.prog 7 #[.pointer (some ⟨L.wb, 0, none⟩), .slice a n cap] w fun e w' => e = .returned (.tuple #[.int .i64 ((s.deals.length + 1 : Nat) : Int), .int .i64 0]) ∧ LeavesW L w (s.begin ws) w' := by
  have l0 := h.l0
  have lf := h.lf
  have l2 := h.l2
  have hR1 := h.locked (.int .i32 1)
  have hw1 := hw.setCell ⟨L.wb, 0, none⟩ hwa (.int .i32 1)
  have hm6 : n ≤ 6 := by
    have := hso
    simp [soundB] at this
    omega
  have hpa := hide (nodesParts_any hR1 hf)
  have hsd := sound_any a n cap ws s.parts _ hn (by unfold maxLen; omega) hc hw1
  rw [hso] at hsd
  have HSD := hide hsd
  clear hsd
  go_enter_defers Try.func7, Try.ntmps7
  go_wp2_with (first
    | (go_at_call 15; refine (lock_free Try.muLib ⟨L.wb, 0, none⟩ _ l0 lf).mono ?_; rintro e w' ⟨rfl, rfl⟩)
    | (go_at_call 18; refine (unhide hpa).mono ?_; rintro e w2 ⟨rfl, rfl⟩))
  refine (unhide HSD).mono ?_
  rintro e w2 ⟨rfl, hb2⟩
  obtain ⟨k0, k2, kf, hLW⟩ := h.unlocked (Leaves.same hR1 hb2)
  have hR2 := hR1.below hb2
  have hfu := nodesFull_any hR2 hf
  rw [show decide (12 ≤ s.deals.length) = false from by simp; omega] at hfu
  have HFU := hide hfu
  have hbg := hide (nodesBegin_any hR2 hf hs hd a n cap ws hn hm6 (hw1.below hb2))
  clear hfu hLW l2 l0
  go_wp2_with (first
    | (go_at_call 19; refine (unhide HFU).mono ?_; rintro e w3 ⟨rfl, rfl⟩)
    | (go_at_call 20; refine (unhide hbg).mono ?_; rintro e w3 ⟨rfl, hl⟩))
  obtain ⟨k0, k2, kf, hLW⟩ := h.unlocked (hl.below hb2)
  refine leaves_cons (f := 16) (args := #[.pointer (some ⟨L.wb, 0, none⟩)]) (by simp) (by simp [go_sem]) ?_
  refine (unlock_deferred Try.muLib ⟨L.wb, 0, none⟩ .returning _ k0 kf).mono ?_
  rintro e u' w'' ⟨rfl, rfl, rfl⟩
  exact ⟨_, results_tmp2 rfl _ _ _, rfl, hLW⟩
end Go.Proofs.Ytckmknofciejeaa
