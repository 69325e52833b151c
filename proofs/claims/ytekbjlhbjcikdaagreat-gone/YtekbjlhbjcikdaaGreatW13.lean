/-
  Walks of (*Mail).Take, receive and Deliver.
-/
import Derived.Test.YtekbjlhbjcikdaaGreatW12
namespace Go.Proofs.YtekbjlhbjcikdaaGreat
open Go.RowKit Acc

theorem msgCells_take (ms : List Msg) (i : Nat) : (msgCells ms).take (i * 4) = msgCells (ms.take i) := by
  induction ms generalizing i with
  | nil => simp [msgCells]
  | cons x r ih =>
    cases i with
    | zero => simp [msgCells]
    | succ i => rw [show (i + 1) * 4 = i * 4 + 1 + 1 + 1 + 1 from by omega]; simp [msgCells, ih]
theorem msgCells_drop (ms : List Msg) (i : Nat) : (msgCells ms).drop (i * 4) = msgCells (ms.drop i) := by
  induction ms generalizing i with
  | nil => simp [msgCells]
  | cons x r ih =>
    cases i with
    | zero => simp
    | succ i => rw [show (i + 1) * 4 = i * 4 + 1 + 1 + 1 + 1 from by omega]; simp [msgCells, ih]
theorem msgCells_cut (ms : List Msg) (l : List Value) (n i : Nat) (hi : i < n) (h : l.take (n * 4) = msgCells ms) : cutCells l i n = msgCells (ms.eraseIdx i) := by
  unfold cutCells
  have h1 : l.take (i * 4) = (l.take (n * 4)).take (i * 4) := by rw [List.take_take, Nat.min_eq_left (by omega)]
  rw [h1, h, msgCells_take, msgCells_drop, ← msgCells_append, List.eraseIdx_eq_take_drop_succ]

/-- slices.Delete of one message, at a slice that has its array for itself. -/
theorem delete_own (w : World) (g n cap i : Nat) (ms : List Msg) (ho : w.ownsRow 0 109 4 (.slice (some ⟨g, 0, none⟩) n cap) n (msgCells ms)) (hi : i < n) :
    Calls Tryz.prog 133 #[.slice (some ⟨g, 0, none⟩) n cap, .int .i64 i, .int .i64 (i + 1)] w fun e w' =>
      e = .returned (.slice (some ⟨g, 0, none⟩) (n - 1) cap) ∧ w.grownBy w' (some g) ∧ w'.ownsRow 0 109 4 (.slice (some ⟨g, 0, none⟩) (n - 1) cap) (n - 1) (msgCells (ms.eraseIdx i)) := by
  have hml : ms.length = n := by have := ho.1; rw [msgCells_length] at this; omega
  rcases ho.2 with ⟨hv, h0⟩ | ⟨g', cap', cur, hv, hb, hg, hnc, hm, hs, ht⟩
  · cases hv
  · injection hv with e1 e2 e3
    injection e1 with e1
    injection e1 with e1
    subst e1 e3
    have hcut := msgCells_cut ms cur.toList n i hi ht
    have hel : (msgCells (ms.eraseIdx i)).length = (n - 1) * 4 := by rw [msgCells_length, List.length_eraseIdx_of_lt (by omega), hml]
    by_cases hc : cap = i + 1
    · have hn : n = i + 1 := by omega
      subst hn hc
      refine (delete_full w g i cur hg hm hs).mono ?_
      rintro e w' ⟨rfl, hgr, cur', hg', hs', ht'⟩
      refine ⟨rfl, hgr, hel, .inr ⟨g, _, cur', rfl, Nat.zero_le _, hg', by omega, hm, hs', ?_⟩⟩
      rw [← hcut]
      show cur'.toList.take (i * 4) = _
      rw [ht']
      unfold cutCells
      rw [List.drop_of_length_le (by simp; omega), List.append_nil]
    · refine (delete_more w g n cap i cur hg hnc hm hs hi hc (by rw [ht]; exact msgCells_one _)).mono ?_
      rintro e w' ⟨rfl, hgr, cur', hg', hs', ht'⟩
      exact ⟨rfl, hgr, hel, .inr ⟨g, _, cur', rfl, Nat.zero_le _, hg', by omega, hm, hs', by rw [ht', hcut]⟩⟩

theorem Upd.of_grown {w W w3 : World} {L : Lay} {s : St} (h : Rep w L s) {t : Tag} {g : Nat} (ht : L.own g = some t) (hb : Below w.heap.size w W) (g2 : W.grownBy w3 (some g)) : Upd w w3 L.own t g where
  os := g2.os.trans hb.os
  tape := g2.tape.trans hb.tape
  output := g2.output.trans hb.output
  size := Nat.le_trans hb.size g2.size
  keep := fun b u hbu hu => by
    have hlt := h.lt b u hbu
    rw [g2.block b (Nat.lt_of_lt_of_le hlt hb.size) ?_, hb.block b hlt]
    intro e
    injection e with e
    subst e
    rw [hbu] at ht
    injection ht with ht
    exact hu ht
  other := fun b hlt hbn => by
    rw [g2.block b (Nat.lt_of_lt_of_le hlt hb.size) ?_, hb.block b hlt]
    intro e
    injection e with e
    subst e
    rw [hbn] at ht
    cases ht
  new := .inl ht
  klt := Nat.lt_of_lt_of_le (Nat.lt_of_lt_of_le (h.lt g t ht) hb.size) g2.size

/-- One block alone has turned. -/
structure But (b : Nat) (W W' : World) : Prop where
  os : W'.os = W.os
  tape : W'.tape = W.tape
  output : W'.output = W.output
  size : W.heap.size ≤ W'.heap.size
  keep : ∀ k, k ≠ b → W'.heap[k]? = W.heap[k]?
theorem But.refl (b : Nat) (W : World) : But b W W := ⟨rfl, rfl, rfl, Nat.le_refl _, fun _ _ => rfl⟩
theorem But.setCell {b : Nat} {W W' : World} (h : But b W W') (a : Addr) (ha : a.block = b) (v : Value) : But b W (W'.setCell a v) :=
  ⟨h.os, h.tape, h.output, by have := h.size; simpa [World.setCell] using this, fun k hk => (block_setCell (by rw [ha]; exact hk)).trans (h.keep k hk)⟩
theorem Leaves.box {L : Lay} {w w2 W W' : World} {s : St} {b : Nat} (hb : Below w.heap.size w w2) (hl : Leaves L w2 s W) (h1 : w.heap.size ≤ b) (h2 : b < w2.heap.size) (hn : L.own b = none) (hw : But b W W') : Leaves L w s W' := by
  obtain ⟨L', e1, e2, hR, hE⟩ := hl
  have hbn := (hE.keep b h2 hn).2
  refine ⟨L', e1, e2, hR.frame hw.size fun k t hk => hw.keep k (fun e => by rw [e, hbn] at hk; cases hk), ?_⟩
  have hE2 := (Ext.of_below (o := L.own) hb).trans hE
  exact ⟨hw.os.trans hE2.os, hw.tape.trans hE2.tape, hw.output.trans hE2.output, Nat.le_trans hE2.size hw.size, fun k hk hkn => ⟨(hw.keep k (by omega)).trans (hE2.keep k hk hkn).1, (hE2.keep k hk hkn).2⟩⟩

set_option maxRecDepth 100000 in
set_option maxHeartbeats 1000000 in
theorem mailTake_any {w : World} {L : Lay} {s : St} (h : Rep w L s) (hfl : s.fly.length ≤ 60) (i : Nat) (m : Msg) (hi : s.fly[i]? = some m) :
    Calls Tryz.prog 95 #[.pointer (some ⟨L.nb, 80, none⟩), .int .i64 i] w fun e w' => e = .returned (.agg #[.int .i64 m.kind, .int .i64 m.frm, .int .i64 m.to, .int .i64 m.trans]) ∧ Leaves L w { s with fly := s.fly.eraseIdx i } w' := by
  have hil : i < s.fly.length := (List.getElem?_eq_some_iff.1 hi).1
  have HD := hide (by have := h.om.len; rw [msgCells_length] at this; omega : L.fv.n = s.fly.length)
  have hin : i < L.fv.n := by rw [unhide HD]; exact hil
  have hdn : L.fv.n ≤ 60 := by rw [unhide HD]; exact hfl
  have cf := h.cf
  have hnb := World.block_lt_of_cell? w _ cf
  obtain ⟨g, ha, hcap, hfz, hc⟩ := h.om.at (by omega)
  rw [ha] at cf
  obtain ⟨m0, m1, m2, m3⟩ := msgCells_get s.fly i m hi
  have m0 := hc _ _ m0
  have m1 := hc _ _ m1
  have m2 := hc _ _ m2
  have m3 := hc _ _ m3
  have hgl := World.block_lt_of_cell? w _ m0
  rw [show 4 * i = i * 4 from by omega] at m0 m1 m2 m3
  have HA := hide ha
  have HI := hide hi
  clear hc hi hil hfl ha
  go_enter Tryz.func95, Tryz.ntmps95
  go_wp2_with fail
  have hown : w.ownsRow 0 109 4 (.slice (some ⟨g, 0, none⟩) L.fv.n L.fv.cap) L.fv.n (msgCells s.fly) := by
    have := h.om
    unfold Owns at this
    rw [unhide HA] at this
    exact this
  have hb2 : Below w.heap.size w ((w.alloc (Obj.cells #[Value.int IntKind.i64 0, Value.int IntKind.i64 0, Value.int IntKind.i64 0, Value.int IntKind.i64 0] 109)).alloc (Obj.cells #[Value.int IntKind.i64 m.kind, Value.int IntKind.i64 m.frm, Value.int IntKind.i64 m.to, Value.int IntKind.i64 m.trans] 109)) := (below_alloc _ _).more (below_alloc _ _)
  refine (delete_own _ g L.fv.n L.fv.cap i s.fly (ownsRow_below hown hb2) hin).mono ?_
  rintro e w3 ⟨rfl, hgr, hown3⟩
  have htg : L.own g = some .fly := h.tf _ (unhide HA)
  have hu := Upd.of_grown h htg hb2 hgr
  have HL := hide ((h.below hb2).flown (s.fly.eraseIdx i) (Upd.of_grown (h.below hb2) htg (Below.refl _ _) hgr) hown3)
  have cf3 := (World.cell?_of_block (a := ⟨L.nb, 80, none⟩) (hu.keep _ _ h.tn (by simp))).trans cf
  have fz3 := (World.frozen?_of_block (a := ⟨L.nb, 80, none⟩) (hu.keep _ _ h.tn (by simp))).trans (h.fz 80)
  have hs3 := hgr.size
  simp at hs3
  have hbx : ∀ b o, w.heap.size ≤ b → b < w.heap.size + 2 → w3.cell? ⟨b, o, none⟩ = ((w.alloc (Obj.cells #[Value.int IntKind.i64 0, Value.int IntKind.i64 0, Value.int IntKind.i64 0, Value.int IntKind.i64 0] 109)).alloc (Obj.cells #[Value.int IntKind.i64 m.kind, Value.int IntKind.i64 m.frm, Value.int IntKind.i64 m.to, Value.int IntKind.i64 m.trans] 109)).cell? ⟨b, o, none⟩ := fun b o h1 h2 =>
    World.cell?_of_block (a := ⟨b, o, none⟩) (hgr.block b (by simp; omega) (by intro e; injection e with e; omega))
  have hfx : ∀ b o, w.heap.size ≤ b → b < w.heap.size + 2 → w3.frozen? ⟨b, o, none⟩ = ((w.alloc (Obj.cells #[Value.int IntKind.i64 0, Value.int IntKind.i64 0, Value.int IntKind.i64 0, Value.int IntKind.i64 0] 109)).alloc (Obj.cells #[Value.int IntKind.i64 m.kind, Value.int IntKind.i64 m.frm, Value.int IntKind.i64 m.to, Value.int IntKind.i64 m.trans] 109)).frozen? ⟨b, o, none⟩ := fun b o h1 h2 =>
    World.frozen?_of_block (a := ⟨b, o, none⟩) (hgr.block b (by simp; omega) (by intro e; injection e with e; omega))
  have x0 : w3.cell? ⟨w.heap.size + 1, 0, none⟩ = some (.int .i64 m.kind) := by rw [hbx _ _ (by omega) (by omega)]; simp [go_sem]
  have x1 : w3.cell? ⟨w.heap.size + 1, 1, none⟩ = some (.int .i64 m.frm) := by rw [hbx _ _ (by omega) (by omega)]; simp [go_sem]
  have x2 : w3.cell? ⟨w.heap.size + 1, 2, none⟩ = some (.int .i64 m.to) := by rw [hbx _ _ (by omega) (by omega)]; simp [go_sem]
  have x3 : w3.cell? ⟨w.heap.size + 1, 3, none⟩ = some (.int .i64 m.trans) := by rw [hbx _ _ (by omega) (by omega)]; simp [go_sem]
  have y0 : w3.cell? ⟨w.heap.size, 0, none⟩ = some (.int .i64 0) := by rw [hbx _ _ (by omega) (by omega)]; simp [go_sem]
  have y1 : w3.cell? ⟨w.heap.size, 1, none⟩ = some (.int .i64 0) := by rw [hbx _ _ (by omega) (by omega)]; simp [go_sem]
  have y2 : w3.cell? ⟨w.heap.size, 2, none⟩ = some (.int .i64 0) := by rw [hbx _ _ (by omega) (by omega)]; simp [go_sem]
  have y3 : w3.cell? ⟨w.heap.size, 3, none⟩ = some (.int .i64 0) := by rw [hbx _ _ (by omega) (by omega)]; simp [go_sem]
  have z0 : ∀ o, w3.frozen? ⟨w.heap.size, o, none⟩ = false := fun o => by rw [hfx _ _ (by omega) (by omega)]; simp [go_sem]
  have HF := hide (h.free (Nat.le_refl _) : L.own w.heap.size = none)
  clear hbx hfx hgr m0 m1 m2 m3 cf hown hown3
  go_wp2
  refine bodyPost_ret (v := .agg #[.int .i64 m.kind, .int .i64 m.frm, .int .i64 m.to, .int .i64 m.trans]) (by simp [results, Tryz.results95, go_sem, *]) rfl ⟨rfl, ?_⟩
  refine Leaves.box hb2 (unhide HL) (Nat.le_refl _) (by simp; omega) (unhide HF) ?_
  exact ((((But.refl w.heap.size _).setCell ⟨w.heap.size, 0, none⟩ rfl _).setCell ⟨w.heap.size, 1, none⟩ rfl _).setCell ⟨w.heap.size, 2, none⟩ rfl _).setCell ⟨w.heap.size, 3, none⟩ rfl _
end Go.Proofs.YtekbjlhbjcikdaaGreat
