/-
  Walks of the face's Begin.
-/
import Derived.Test.YtekbjlhbjcikdaaGreatW24
namespace Go.Proofs.YtekbjlhbjcikdaaGreat
open Go.RowKit Acc Go.MuLone

theorem WrAt.setCell {w : World} {a : Option Addr} {ws : List Wr} (h : WrAt w a ws) (p : Addr) (hp : ∀ ad, a = some ad → ad.block ≠ p.block) (v : Value) : WrAt (w.setCell p v) a ws := by
  rcases h with h | ⟨g, o, ha, hg, hc⟩
  · exact .inl h
  · have hne : g ≠ p.block := hp _ ha
    refine .inr ⟨g, o, ha, by simpa [World.setCell] using hg, fun i x hx => ?_⟩
    obtain ⟨h0, h1, h2⟩ := hc i x hx
    have e : ∀ k, (w.setCell p v).cell? ⟨g, k, none⟩ = w.cell? ⟨g, k, none⟩ := fun k => World.cell?_of_block (a := ⟨g, k, none⟩) (block_setCell hne)
    exact ⟨(e _).trans h0, (e _).trans h1, (e _).trans h2⟩

set_option maxRecDepth 100000 in
set_option maxHeartbeats 1000000 in
theorem begin1_any {w : World} {L : Lay} {s : St} {b0 b1 t : Nat} (h : Rep w L s) (hf : Wf s) (hs : Sm s)
    (c0 : w.cell? ⟨b0, 0, none⟩ = some (.pointer (some ⟨L.wb, 0, none⟩))) (c1 : w.cell? ⟨b1, 0, none⟩ = some (.int .i64 t)) (l2 : w.cell? ⟨L.wb, 2, none⟩ = some (.pointer (some ⟨L.nb, 0, none⟩))) (ht : 1 ≤ t) (ht' : t ≤ s.deals.length) :
    Calls Tryz.prog 80 #[.pointer (some ⟨b0, 0, none⟩), .pointer (some ⟨b1, 0, none⟩)] w (Acts L w 0 (s.does 0 (s.all t 1 1))) := by
  have hc := fun w' (hb : Below w.heap.size w w') => nodesBegin_any (h.below hb) hf hs t ht ht'
  have HC := hide hc
  clear hc
  go_enter Tryz.func80, Tryz.ntmps80
  go_wp2_with fail
  go_region_dies
  all_goals
    rename_i K hK
    refine (unhide HC _ (Below.refl _ _).drew).mono ?_
    intro e w1 ha
    have ha2 := ha.below (Below.refl _ _).drew
    rcases ha.cases with ⟨hr, rfl, hl⟩ | ⟨hr, rfl, hl⟩
    · refine hK _ _ ?_
      refine wpAny_done (by kernel_rfl) ?_ _
      go_end0
      exact ha2
    · exact ⟨rfl, ha2⟩

set_option maxRecDepth 100000 in
set_option maxHeartbeats 1000000 in
theorem begin_unsound {w : World} {L : Lay} {s : St} (h : RepW w L s) (hk : Ok s) (a : Option Addr) (n cap : Nat) (ws : List Wr) (hn : ws.length = n) (hm : n ≤ maxLen) (hc : n ≤ cap) (hw : WrAt w a ws) (hwa : ∀ ad, a = some ad → ad.block ≠ L.wb)
    (hso : soundB ws s.parts = false) :
    Calls Tryz.prog 40 #[.pointer (some ⟨L.wb, 0, none⟩), .slice a n cap] w fun e w' => e = .returned (.tuple #[.int .i64 0, .int .i64 1]) ∧ LeavesW L w s w' := by
  have hwl := h.wlt
  go_enter_defers Tryz.func40, Tryz.ntmps40
  go_wp2_with fail
  have hb1 := below_alloc w (Obj.cells #[Value.pointer (some ⟨L.wb, 0, none⟩)] 37)
  have x0 : (w.alloc (Obj.cells #[Value.pointer (some ⟨L.wb, 0, none⟩)] 37)).cell? ⟨w.heap.size, 0, none⟩ = some (.pointer (some ⟨L.wb, 0, none⟩)) := by simp [go_sem]
  generalize w.alloc (Obj.cells #[Value.pointer (some ⟨L.wb, 0, none⟩)] 37) = w1 at *
  have h1 := h.below hb1
  have hR2 := h1.locked (.int .i32 1)
  have l2 : (w1.setCell ⟨L.wb, 0, none⟩ (.int .i32 1)).cell? ⟨L.wb, 2, none⟩ = some (.pointer (some ⟨L.nb, 0, none⟩)) := (World.cell?_setCell_other _ _ _ _ (by simp)).trans h1.l2
  have hw2 := (hw.below hb1).setCell ⟨L.wb, 0, none⟩ hwa (.int .i32 1)
  have hlt : w.heap.size < w1.heap.size := World.block_lt_of_cell? w1 _ x0
  rw [← cell_lock (x := L.wb) (v := .int .i32 1) (by omega)] at x0
  refine (lock_free Tryz.muLib ⟨L.wb, 0, none⟩ _ h1.l0 h1.lf).mono ?_
  rintro e w' ⟨rfl, rfl⟩
  have hlt2 : w.heap.size < (w1.setCell ⟨L.wb, 0, none⟩ (.int .i32 1)).heap.size := by simpa [World.setCell] using hlt
  have HUN := hide (fun s' w2 (hl : Leaves L (w1.setCell ⟨L.wb, 0, none⟩ (.int .i32 1)) s' w2) => h1.unlocked hl)
  have hwb2 : L.wb < (w1.setCell ⟨L.wb, 0, none⟩ (.int .i32 1)).heap.size := World.block_lt_of_cell? _ _ l2
  generalize w1.setCell ⟨L.wb, 0, none⟩ (.int .i32 1) = w2 at *
  have HPA := hide (nodesParts_any hR2 hk.inv.wf)
  have hsd := sound_any a n cap ws s.parts w2 hn hm hc hw2
  rw [hso] at hsd
  have HSD := hide hsd
  clear hsd h1 h
  go_wp2_with fail
  refine (unhide HPA).mono ?_
  rintro e w3 ⟨rfl, rfl⟩
  go_wp2_with fail
  refine (unhide HSD).mono ?_
  rintro e w4 ⟨rfl, hb4⟩
  obtain ⟨k0, k2, kf, hLW⟩ := unhide HUN _ _ (Leaves.same hR2 hb4)
  have HLW := hide (hLW.below hb1)
  clear hLW
  go_wp2
  refine leaves_cons (f := 46) (args := #[.pointer (some ⟨L.wb, 0, none⟩)]) (by simp) (by simp [go_sem]) ?_
  refine (unlock_deferred Tryz.muLib ⟨L.wb, 0, none⟩ .returning _ k0 kf).mono ?_
  rintro e u' w'' ⟨rfl, rfl, rfl⟩
  exact ⟨_, results_tmp2 rfl _ _ _, rfl, unhide HLW⟩

set_option maxRecDepth 100000 in
set_option maxHeartbeats 1000000 in
theorem begin_down {w : World} {L : Lay} {s : St} (h : RepW w L s) (hk : Ok s) (a : Option Addr) (n cap : Nat) (ws : List Wr) (hn : ws.length = n) (hm : n ≤ maxLen) (hc : n ≤ cap) (hw : WrAt w a ws) (hwa : ∀ ad, a = some ad → ad.block ≠ L.wb)
    (hso : soundB ws s.parts = true) (hu : s.up 0 = false) :
    Calls Tryz.prog 40 #[.pointer (some ⟨L.wb, 0, none⟩), .slice a n cap] w fun e w' => e = .returned (.tuple #[.int .i64 0, .int .i64 2]) ∧ LeavesW L w s w' := by
  have hwl := h.wlt
  go_enter_defers Tryz.func40, Tryz.ntmps40
  go_wp2_with fail
  have hb1 := below_alloc w (Obj.cells #[Value.pointer (some ⟨L.wb, 0, none⟩)] 37)
  have x0 : (w.alloc (Obj.cells #[Value.pointer (some ⟨L.wb, 0, none⟩)] 37)).cell? ⟨w.heap.size, 0, none⟩ = some (.pointer (some ⟨L.wb, 0, none⟩)) := by simp [go_sem]
  generalize w.alloc (Obj.cells #[Value.pointer (some ⟨L.wb, 0, none⟩)] 37) = w1 at *
  have h1 := h.below hb1
  have hR2 := h1.locked (.int .i32 1)
  have l2 : (w1.setCell ⟨L.wb, 0, none⟩ (.int .i32 1)).cell? ⟨L.wb, 2, none⟩ = some (.pointer (some ⟨L.nb, 0, none⟩)) := (World.cell?_setCell_other _ _ _ _ (by simp)).trans h1.l2
  have hw2 := (hw.below hb1).setCell ⟨L.wb, 0, none⟩ hwa (.int .i32 1)
  have hlt : w.heap.size < w1.heap.size := World.block_lt_of_cell? w1 _ x0
  rw [← cell_lock (x := L.wb) (v := .int .i32 1) (by omega)] at x0
  refine (lock_free Tryz.muLib ⟨L.wb, 0, none⟩ _ h1.l0 h1.lf).mono ?_
  rintro e w' ⟨rfl, rfl⟩
  have hlt2 : w.heap.size < (w1.setCell ⟨L.wb, 0, none⟩ (.int .i32 1)).heap.size := by simpa [World.setCell] using hlt
  have HUN := hide (fun s' w2 (hl : Leaves L (w1.setCell ⟨L.wb, 0, none⟩ (.int .i32 1)) s' w2) => h1.unlocked hl)
  have hwb2 : L.wb < (w1.setCell ⟨L.wb, 0, none⟩ (.int .i32 1)).heap.size := World.block_lt_of_cell? _ _ l2
  generalize w1.setCell ⟨L.wb, 0, none⟩ (.int .i32 1) = w2 at *
  have HPA := hide (nodesParts_any hR2 hk.inv.wf)
  have hsd := sound_any a n cap ws s.parts w2 hn hm hc hw2
  rw [hso] at hsd
  have HSD := hide hsd
  have hfr := h.fr
  have hbx : L.own w.heap.size = none := h.rep.free (Nat.le_refl _)
  clear hsd h1 h hso
  go_wp2_with fail
  refine (unhide HPA).mono ?_
  rintro e w3 ⟨rfl, rfl⟩
  go_wp2_with fail
  refine (unhide HSD).mono ?_
  rintro e w4 ⟨rfl, hb4⟩
  rw [← hb4.cell (p := ⟨w.heap.size, 0, none⟩) hlt2] at x0
  rw [← hb4.cell (p := ⟨L.wb, 2, none⟩) hwb2] at l2
  have hR4 := hR2.below hb4
  have hup := nodesUp_any hR4 hk.inv.p5 0 (Nat.zero_le _)
  rw [hu] at hup
  have HUP := hide hup
  clear hup hu
  go_wp2_with fail
  refine (unhide HUP).mono ?_
  rintro e w5 ⟨rfl, rfl⟩
  obtain ⟨k0, k2, kf, hLW⟩ := unhide HUN _ _ (Leaves.same hR2 hb4)
  have HLW := hide (hLW.below hb1)
  clear hLW
  go_wp2
  refine leaves_cons (f := 46) (args := #[.pointer (some ⟨L.wb, 0, none⟩)]) (by simp) (by simp [go_sem]) ?_
  refine (unlock_deferred Tryz.muLib ⟨L.wb, 0, none⟩ .returning _ k0 kf).mono ?_
  rintro e u' w'' ⟨rfl, rfl, rfl⟩
  exact ⟨_, results_tmp2 rfl _ _ _, rfl, unhide HLW⟩

set_option maxRecDepth 100000 in
set_option maxHeartbeats 1000000 in
theorem begin_full {w : World} {L : Lay} {s : St} (h : RepW w L s) (hk : Ok s) (a : Option Addr) (n cap : Nat) (ws : List Wr) (hn : ws.length = n) (hm : n ≤ maxLen) (hc : n ≤ cap) (hw : WrAt w a ws) (hwa : ∀ ad, a = some ad → ad.block ≠ L.wb)
    (hso : soundB ws s.parts = true) (hu : s.up 0 = true) (hd : ¬ s.deals.length < 12) :
    Calls Tryz.prog 40 #[.pointer (some ⟨L.wb, 0, none⟩), .slice a n cap] w fun e w' => e = .returned (.tuple #[.int .i64 0, .int .i64 4]) ∧ LeavesW L w s w' := by
  have hwl := h.wlt
  go_enter_defers Tryz.func40, Tryz.ntmps40
  go_wp2_with fail
  have hb1 := below_alloc w (Obj.cells #[Value.pointer (some ⟨L.wb, 0, none⟩)] 37)
  have x0 : (w.alloc (Obj.cells #[Value.pointer (some ⟨L.wb, 0, none⟩)] 37)).cell? ⟨w.heap.size, 0, none⟩ = some (.pointer (some ⟨L.wb, 0, none⟩)) := by simp [go_sem]
  generalize w.alloc (Obj.cells #[Value.pointer (some ⟨L.wb, 0, none⟩)] 37) = w1 at *
  have h1 := h.below hb1
  have hR2 := h1.locked (.int .i32 1)
  have l2 : (w1.setCell ⟨L.wb, 0, none⟩ (.int .i32 1)).cell? ⟨L.wb, 2, none⟩ = some (.pointer (some ⟨L.nb, 0, none⟩)) := (World.cell?_setCell_other _ _ _ _ (by simp)).trans h1.l2
  have hw2 := (hw.below hb1).setCell ⟨L.wb, 0, none⟩ hwa (.int .i32 1)
  have hlt : w.heap.size < w1.heap.size := World.block_lt_of_cell? w1 _ x0
  rw [← cell_lock (x := L.wb) (v := .int .i32 1) (by omega)] at x0
  refine (lock_free Tryz.muLib ⟨L.wb, 0, none⟩ _ h1.l0 h1.lf).mono ?_
  rintro e w' ⟨rfl, rfl⟩
  have hlt2 : w.heap.size < (w1.setCell ⟨L.wb, 0, none⟩ (.int .i32 1)).heap.size := by simpa [World.setCell] using hlt
  have HUN := hide (fun s' w2 (hl : Leaves L (w1.setCell ⟨L.wb, 0, none⟩ (.int .i32 1)) s' w2) => h1.unlocked hl)
  have hwb2 : L.wb < (w1.setCell ⟨L.wb, 0, none⟩ (.int .i32 1)).heap.size := World.block_lt_of_cell? _ _ l2
  generalize w1.setCell ⟨L.wb, 0, none⟩ (.int .i32 1) = w2 at *
  have HPA := hide (nodesParts_any hR2 hk.inv.wf)
  have hsd := sound_any a n cap ws s.parts w2 hn hm hc hw2
  rw [hso] at hsd
  have HSD := hide hsd
  have hfr := h.fr
  have hbx : L.own w.heap.size = none := h.rep.free (Nat.le_refl _)
  clear hsd h1 h hso
  go_wp2_with fail
  refine (unhide HPA).mono ?_
  rintro e w3 ⟨rfl, rfl⟩
  go_wp2_with fail
  refine (unhide HSD).mono ?_
  rintro e w4 ⟨rfl, hb4⟩
  rw [← hb4.cell (p := ⟨w.heap.size, 0, none⟩) hlt2] at x0
  rw [← hb4.cell (p := ⟨L.wb, 2, none⟩) hwb2] at l2
  have hR4 := hR2.below hb4
  have hup := nodesUp_any hR4 hk.inv.p5 0 (Nat.zero_le _)
  rw [hu] at hup
  have HUP := hide hup
  have hfu := nodesFull_any hR4 hk.inv.wf
  rw [show decide (12 ≤ s.deals.length) = true from by simp; omega] at hfu
  have HFU := hide hfu
  clear hup hu hfu
  go_wp2_with fail
  refine (unhide HUP).mono ?_
  rintro e w5 ⟨rfl, rfl⟩
  go_wp2_with fail
  refine (unhide HFU).mono ?_
  rintro e w6 ⟨rfl, rfl⟩
  obtain ⟨k0, k2, kf, hLW⟩ := unhide HUN _ _ (Leaves.same hR2 hb4)
  have HLW := hide (hLW.below hb1)
  clear hLW
  go_wp2
  refine leaves_cons (f := 46) (args := #[.pointer (some ⟨L.wb, 0, none⟩)]) (by simp) (by simp [go_sem]) ?_
  refine (unlock_deferred Tryz.muLib ⟨L.wb, 0, none⟩ .returning _ k0 kf).mono ?_
  rintro e u' w'' ⟨rfl, rfl, rfl⟩
  exact ⟨_, results_tmp2 rfl _ _ _, rfl, unhide HLW⟩

set_option maxRecDepth 100000 in
set_option maxHeartbeats 1000000 in
theorem begin_ok {w : World} {L : Lay} {s : St} (h : RepW w L s) (hk : Ok s) (a : Option Addr) (n cap : Nat) (ws : List Wr) (hn : ws.length = n) (hm : n ≤ maxLen) (hc : n ≤ cap) (hw : WrAt w a ws) (hwa : ∀ ad, a = some ad → ad.block ≠ L.wb)
    (hso : soundB ws s.parts = true) (hu : s.up 0 = true) (hd : s.deals.length < 12) :
    Calls Tryz.prog 40 #[.pointer (some ⟨L.wb, 0, none⟩), .slice a n cap] w fun e w' => e = .returned (.tuple #[.int .i64 ((s.deals.length + 1 : Nat) : Int), .int .i64 0]) ∧ LeavesW L w (s.bgn ws).1 w' := by
  have hm6 : n ≤ 6 := by have := (soundB_sound hso).l6; omega
  have hok : Ok (s.deal' ws) := by
    have h1 := hk.inv.dealt ws (soundB_sound hso) hd
    refine ⟨h1, ?_⟩
    intro x hx y hy
    rcases List.mem_append.1 hx with hx | hx
    · exact hk.keys x hx y hy
    · simp at hx; subst hx; exact (soundB_sound hso).key y hy
  have hwl := h.wlt
  go_enter_defers Tryz.func40, Tryz.ntmps40
  go_wp2_with fail
  have hb1 := below_alloc w (Obj.cells #[Value.pointer (some ⟨L.wb, 0, none⟩)] 37)
  have x0 : (w.alloc (Obj.cells #[Value.pointer (some ⟨L.wb, 0, none⟩)] 37)).cell? ⟨w.heap.size, 0, none⟩ = some (.pointer (some ⟨L.wb, 0, none⟩)) := by simp [go_sem]
  generalize w.alloc (Obj.cells #[Value.pointer (some ⟨L.wb, 0, none⟩)] 37) = w1 at *
  have h1 := h.below hb1
  have hR2 := h1.locked (.int .i32 1)
  have l2 : (w1.setCell ⟨L.wb, 0, none⟩ (.int .i32 1)).cell? ⟨L.wb, 2, none⟩ = some (.pointer (some ⟨L.nb, 0, none⟩)) := (World.cell?_setCell_other _ _ _ _ (by simp)).trans h1.l2
  have hw2 := (hw.below hb1).setCell ⟨L.wb, 0, none⟩ hwa (.int .i32 1)
  have hlt : w.heap.size < w1.heap.size := World.block_lt_of_cell? w1 _ x0
  rw [← cell_lock (x := L.wb) (v := .int .i32 1) (by omega)] at x0
  refine (lock_free Tryz.muLib ⟨L.wb, 0, none⟩ _ h1.l0 h1.lf).mono ?_
  rintro e w' ⟨rfl, rfl⟩
  have hlt2 : w.heap.size < (w1.setCell ⟨L.wb, 0, none⟩ (.int .i32 1)).heap.size := by simpa [World.setCell] using hlt
  have HUN := hide (fun s' w2 (hl : Leaves L (w1.setCell ⟨L.wb, 0, none⟩ (.int .i32 1)) s' w2) => h1.unlocked hl)
  have hwb2 : L.wb < (w1.setCell ⟨L.wb, 0, none⟩ (.int .i32 1)).heap.size := World.block_lt_of_cell? _ _ l2
  generalize w1.setCell ⟨L.wb, 0, none⟩ (.int .i32 1) = w2 at *
  have HPA := hide (nodesParts_any hR2 hk.inv.wf)
  have hsd := sound_any a n cap ws s.parts w2 hn hm hc hw2
  rw [hso] at hsd
  have HSD := hide hsd
  have hfr := h.fr
  have hbx : L.own w.heap.size = none := h.rep.free (Nat.le_refl _)
  clear hsd h1 h hso
  go_wp2_with fail
  refine (unhide HPA).mono ?_
  rintro e w3 ⟨rfl, rfl⟩
  go_wp2_with fail
  refine (unhide HSD).mono ?_
  rintro e w4 ⟨rfl, hb4⟩
  rw [← hb4.cell (p := ⟨w.heap.size, 0, none⟩) hlt2] at x0
  rw [← hb4.cell (p := ⟨L.wb, 2, none⟩) hwb2] at l2
  have hR4 := hR2.below hb4
  have hup := nodesUp_any hR4 hk.inv.p5 0 (Nat.zero_le _)
  rw [hu] at hup
  have HUP := hide hup
  have hfu := nodesFull_any hR4 hk.inv.wf
  rw [show decide (12 ≤ s.deals.length) = false from by simp; omega] at hfu
  have HFU := hide hfu
  clear hup hu hfu
  go_wp2_with fail
  refine (unhide HUP).mono ?_
  rintro e w5 ⟨rfl, rfl⟩
  go_wp2_with fail
  refine (unhide HFU).mono ?_
  rintro e w6 ⟨rfl, rfl⟩
  have had := nodesAdd_any hR4 hd a n cap ws hn hm6 (hw2.below hb4)
  have HAD := hide had
  have HD := hide hd
  clear had hd
  go_wp2_with fail
  refine (unhide HAD).mono ?_
  rintro e w5 ⟨rfl, L1, e1, e2, hR5, hE5⟩
  have hlt4 : w.heap.size < w6.heap.size := Nat.lt_of_lt_of_le hlt2 hb4.size
  have hwb4 : L.wb < w6.heap.size := Nat.lt_of_lt_of_le hwb2 hb4.size
  obtain ⟨kx, nx⟩ := hE5.keep w.heap.size hlt4 hbx
  obtain ⟨kl, nl⟩ := hE5.keep L.wb hwb4 hfr
  have hlt5 : w.heap.size < w5.heap.size := Nat.lt_of_lt_of_le hlt4 hE5.size
  have hwb5 : L.wb < w5.heap.size := Nat.lt_of_lt_of_le hwb4 hE5.size
  rw [← World.cell?_of_block (a := ⟨w.heap.size, 0, none⟩) kx] at x0
  rw [← World.cell?_of_block (a := ⟨L.wb, 2, none⟩) kl] at l2
  generalize hD : s.deals.length + 1 = D at *
  have hb6 := below_alloc w5 (Obj.cells #[Value.int IntKind.i64 (D : Int)] 3)
  have x1 : (w5.alloc (Obj.cells #[Value.int IntKind.i64 (D : Int)] 3)).cell? ⟨w5.heap.size, 0, none⟩ = some (.int .i64 (D : Nat)) := by simp [go_sem]
  rw [← hb6.cell (p := ⟨w.heap.size, 0, none⟩) hlt5] at x0
  rw [← hb6.cell (p := ⟨L.wb, 2, none⟩) hwb5] at l2
  have hb1' := begin1_any (hR5.below hb6) hok.inv.wf hok.inv.sm (by rw [e1]; exact x0) x1 (by rw [e1, e2]; exact l2) (by omega) (by simp [St.deal']; omega)
  have huc := untilCrash_any (g := 80) (fun w => run_callFunc_enter Tryz.func80 (by kernel_rfl) rfl _ w) hb1'
  have HUC := hide huc
  have E := hide (And.intro e1 e2)
  have hx6 : w5.heap.size < (w5.alloc (Obj.cells #[Value.int IntKind.i64 (D : Int)] 3)).heap.size := by simp
  have hfree : L1.own w5.heap.size = none := hR5.free (Nat.le_refl _)
  have hbg : Hid (s.bgn ws = (s.deal' ws).does 0 ((s.deal' ws).all D 1 1)) := by show _ = _; rw [← hD]; rfl
  have HDD := hide hD
  clear huc hb1' hD
  have hmf : ∀ (fn : Fn) (first cap : Array Value) (w : World), (Instr.makeFunc fn first cap).run Tryz.prog w = .ok (.func fn first cap) w := fun _ _ _ _ => rfl
  go_wp2_with fail
  refine (unhide HUC).mono ?_
  rintro e w7 ⟨rfl, hl⟩
  obtain ⟨L2, e3, e4, hR7, hE7⟩ := hl
  have x7 := World.cell?_of_block (a := ⟨w5.heap.size, 0, none⟩) (hE7.keep w5.heap.size hx6 hfree).1
  rw [x1] at x7
  have hl7 : Leaves L w3 (s.bgn ws).1 w7 := by
    rw [unhide hbg]
    exact Leaves.below hb4 (Leaves.trans (unhide E).1 (unhide E).2 hE5 (Leaves.below hb6 ⟨L2, e3, e4, hR7, hE7⟩))
  have HL7 := hide hl7
  clear e3 e4 hl7
  obtain ⟨k0, k2, kf, hLW⟩ := unhide HUN _ _ (unhide HL7)
  have HLW := hide (hLW.below hb1)
  clear hLW
  go_wp2
  refine leaves_cons (f := 46) (args := #[.pointer (some ⟨L.wb, 0, none⟩)]) (by simp) (by simp [go_sem]) ?_
  refine (unlock_deferred Tryz.muLib ⟨L.wb, 0, none⟩ .returning _ k0 kf).mono ?_
  rintro e u' w'' ⟨rfl, rfl, rfl⟩
  exact ⟨_, results_tmp2 rfl _ _ _, by rw [unhide HDD]; rfl, unhide HLW⟩

set_option maxRecDepth 100000 in
theorem begin_any {w : World} {L : Lay} {s : St} (h : RepW w L s) (hk : Ok s) (a : Option Addr) (n cap : Nat) (ws : List Wr) (hn : ws.length = n) (hm : n ≤ maxLen) (hc : n ≤ cap) (hw : WrAt w a ws) (hwa : ∀ ad, a = some ad → ad.block ≠ L.wb)
    :
    Calls Tryz.prog 40 #[.pointer (some ⟨L.wb, 0, none⟩), .slice a n cap] w fun e w' => e = .returned (.tuple #[.int .i64 ((s.beginP ws).2.1 : Nat), .int .i64 ((s.beginP ws).2.2 : Nat)]) ∧ LeavesW L w (s.beginP ws).1 w' := by
  unfold St.beginP
  cases hso : soundB ws s.parts with
  | false => exact begin_unsound h hk a n cap ws hn hm hc hw hwa hso
  | true =>
    cases hu : s.up 0 with
    | false => exact begin_down h hk a n cap ws hn hm hc hw hwa hso hu
    | true =>
      by_cases hd : s.deals.length < 12
      · simp only [if_true, if_pos hd]; exact begin_ok h hk a n cap ws hn hm hc hw hwa hso hu hd
      · simp only [if_true, if_neg hd]; exact begin_full h hk a n cap ws hn hm hc hw hwa hso hu hd
end Go.Proofs.YtekbjlhbjcikdaaGreat
