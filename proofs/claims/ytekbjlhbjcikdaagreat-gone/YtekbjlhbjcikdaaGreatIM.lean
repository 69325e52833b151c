/-
  I1, I2, one behind the other.
-/
import Derived.Test.YtekbjlhbjcikdaaGreatW26
/-
  Walks of nodes.Logs and accord's logs.
-/
namespace Go.Proofs.YtekbjlhbjcikdaaGreat
open Go.RowKit Acc Go.MuLone

theorem Tryz.infoSlG : (Tryz.prog.info? 33).map (fun i => (i.zero, i.size, i.bytes)) = some (some (.slice none 0 0), 1, 24) := by kernel_rfl

/-- All logs, node by node, as lists of their own. -/
def LogsAt (w : World) (n0 lb k : Nat) (V : Nat → Sl) (s : St) : Prop :=
  (∀ i, i ≤ s.parts → w.cell? ⟨lb, i, none⟩ = some (if i < k then .slice (V i).a (V i).n (V i).cap else .slice none 0 0)) ∧ (∀ i, w.frozen? ⟨lb, i, none⟩ = false) ∧
  ∀ i, i < k → w.ownsRow n0 43 2 (.slice (V i).a (V i).n (V i).cap) (s.log i).length (recCells (s.log i)) ∧ (V i).n = (s.log i).length

set_option maxRecDepth 100000 in
set_option maxHeartbeats 1000000 in
theorem nodesLogs_any {w : World} {L : Lay} {s : St} (h : Rep w L s) (hf : Wf s) :
    Calls Tryz.prog 96 #[.pointer (some ⟨L.nb, 0, none⟩)] w fun e w' => ∃ V, e = .returned (.slice (some ⟨w.heap.size, 0, none⟩) (s.parts + 1) (s.parts + 1)) ∧ Below w.heap.size w w' ∧ LogsAt w' (w.heap.size + 1) w.heap.size (s.parts + 1) V s := by
  have c0 := h.c0
  have hp5 := hf.p5
  obtain ⟨i0, hi, hz0, hz1, hz2⟩ := info_parts Tryz.infoSlG
  go_enter Tryz.func96, Tryz.ntmps96
  go_wp2_with (at_make; refine wpList_make_full _ rfl _ _ 66 rfl w.heap.size 33 i0 (.slice none 0 0) 1 Tryz.underlying66 hi hz0 hz1 _ _ _ _ (s.parts + 1) rfl rfl (by simp) (by simp) (by rw [hz2]; omega) (by unfold maxLen; omega) (Nat.le_refl _) ?_; intro w1 hown1 hgrow1; have hb1 : Below w.heap.size w w1 := (Below.refl _ _).grown hgrow1 (Nat.le_refl _) (by intro k hk; cases hk); have h1 := h.below hb1; have c0' := h1.c0; clear hgrow1)
  obtain ⟨g1, e1, _, z1, y1⟩ := Owns.at (e := 33) (size := 1) (s := ⟨some ⟨w.heap.size, 0, none⟩, s.parts + 1, s.parts + 1⟩) (Owns.of_row (ownsRow_mono hown1 (Nat.zero_le _))) (by simp)
  obtain rfl : w.heap.size = g1 := by simpa using e1
  have hz1' : LogsAt w1 (w.heap.size + 1) w.heap.size 0 (fun _ => ⟨none, 0, 0⟩) s := by
    refine ⟨fun i hi => ?_, z1, fun i hi => absurd hi (Nat.not_lt_zero _)⟩
    rw [if_neg (by omega)]
    refine y1 i _ ?_
    rw [made_at _ _ i (by omega)]
    simp [Value.cells, Nat.mod_one]
  have hlt1 : w.heap.size < w1.heap.size := World.block_lt_of_cell? w1 _ (hz1'.1 0 (Nat.zero_le _))
  clear z1 y1 e1
  clear hown1
  go_loopw [16] (fun i wr => ∃ (j : Nat) (V : Nat → Sl), j ≤ s.parts + 1 ∧ i = .int .i64 (j : Int) ∧ Below w.heap.size w wr ∧ w.heap.size < wr.heap.size ∧ LogsAt wr (w.heap.size + 1) w.heap.size j V s) (fun i _ => s.parts + 1 - (intOf i).toNat)
  case atStart => exact ⟨0, _, Nat.zero_le _, rfl, hb1, hlt1, hz1'⟩
  case round =>
    obtain ⟨j, V, hj, rfl, hB, hlt, hL⟩ := hrel
    by_cases hjl : j < s.parts + 1
    · have hji : (j : Int) < (s.parts : Int) + 1 := by omega
      have HC := hide (nodesLog_any (h.below hB) hf j (by omega))
      have q0 := hL.1 j (by omega)
      rw [if_neg (by omega)] at q0
      have q1 := hL.2.1 j
      go_wp2_with fail
      refine (unhide HC).mono ?_
      rintro e w2 ⟨a, cap, rfl, hb2, hown2⟩
      have q0' := (hb2.cell (p := ⟨w.heap.size, j, none⟩) hlt).trans q0
      have q1' : w2.frozen? ⟨w.heap.size, j, none⟩ = false := (hb2.frozen (p := ⟨w.heap.size, j, none⟩) hlt).trans q1
      go_wp2_with fail
      refine ⟨⟨j + 1, fun i => if i = j then ⟨a, (s.log j).length, cap⟩ else V i, by omega, by go_num, ?_, ?_, ?_⟩, by simp [intOf]; omega⟩
      · exact (hB.trans (hb2.mono (by omega))).setCell (p := ⟨w.heap.size, j, none⟩) (Nat.le_refl _) _
      · have := hb2.size; simp [World.setCell]; omega
      · refine ⟨fun i hi => ?_, fun i => ?_, fun i hi => ?_⟩
        · by_cases hij : i = j
          · subst hij
            rw [if_pos (by omega)]
            dsimp only
            rw [if_pos rfl]
            exact World.cell?_setCell_same _ _ _ q0'
          · rw [World.cell?_setCell_other _ _ _ _ (fun e => hij (by simp at e)), hb2.cell (p := ⟨w.heap.size, i, none⟩) hlt, hL.1 i hi]
            dsimp only
            rw [if_neg hij]
            by_cases h1 : i < j
            · rw [if_pos h1, if_pos (by omega)]
            · rw [if_neg h1, if_neg (by omega)]
        · rw [World.frozen?_setCell]
          exact (hb2.frozen (p := ⟨w.heap.size, i, none⟩) hlt).trans (hL.2.1 i)
        · by_cases hij : i = j
          · subst hij
            dsimp only
            rw [if_pos rfl]
            exact ⟨ownsRow_setCell_below (ownsRow_mono hown2 (by omega)) (by simp) _, rfl⟩
          · dsimp only
            rw [if_neg hij]
            obtain ⟨o1, o2⟩ := hL.2.2 i (by omega)
            exact ⟨ownsRow_setCell_below (ownsRow_below o1 hb2) (by simp) _, o2⟩
    · go_wp2_with fail
      go_ret
      obtain rfl : j = s.parts + 1 := by omega
      exact ⟨rfl, hB, V, hL⟩

/-- A cell that is written over and then written back: all old blocks lie as they lay. -/
theorem below_back {w w2 : World} {b : Nat} {v u : Value} (h0 : w.cell? ⟨b, 0, none⟩ = some v) (hb : Below (w.setCell ⟨b, 0, none⟩ u).heap.size (w.setCell ⟨b, 0, none⟩ u) w2) : Below w.heap.size w (w2.setCell ⟨b, 0, none⟩ v) := by
  have hsz : (w.setCell ⟨b, 0, none⟩ u).heap.size = w.heap.size := by simp [World.setCell]
  refine ⟨hb.os, hb.tape, hb.output, by have := hb.size; rw [hsz] at this; simpa [World.setCell] using this, fun k hk => ?_⟩
  have hk2 := hb.block k (by rw [hsz]; exact hk)
  by_cases e : k = b
  · subst e
    have hkk : w.heap[k]? = some w.heap[k] := Array.getElem?_eq_getElem hk
    simp only [World.cell?, hkk] at h0
    simp only [World.setCell, Array.getElem?_modify, if_true] at hk2 ⊢
    rw [hk2, hkk]
    generalize w.heap[k] = o at *
    cases o <;> simp_all
    refine Array.ext_getElem? fun i => ?_
    rw [Array.getElem?_setIfInBounds]
    split
    · rename_i e
      subst e
      obtain ⟨hz, hv⟩ := Array.getElem?_eq_some_iff.1 h0
      rw [if_pos hz, h0]
    · rfl
  · rw [Below.heap_setCell _ _ _ _ (by simpa using e), hk2, Below.heap_setCell _ _ _ _ (by simpa using e)]

set_option maxRecDepth 100000 in
set_option maxHeartbeats 1000000 in
theorem worldLogs_any {w : World} {L : Lay} {s : St} (h : RepW w L s) (hk : Ok s) :
    Calls Tryz.prog 63 #[.pointer (some ⟨L.wb, 0, none⟩)] w fun e w' => ∃ V, e = .returned (.slice (some ⟨w.heap.size, 0, none⟩) (s.parts + 1) (s.parts + 1)) ∧ Below w.heap.size w w' ∧ LogsAt w' (w.heap.size + 1) w.heap.size (s.parts + 1) V s := by
  have l0 := h.l0
  have lf := h.lf
  have l2 := h.l2
  have hR1 := h.locked (.int .i32 1)
  have l2' : (w.setCell ⟨L.wb, 0, none⟩ (.int .i32 1)).cell? ⟨L.wb, 2, none⟩ = some (.pointer (some ⟨L.nb, 0, none⟩)) := (World.cell?_setCell_other _ _ _ _ (by simp)).trans h.l2
  have hfn := hide (nodesLogs_any hR1 hk.inv.wf)
  have hwl := h.wlt
  go_enter_defers Tryz.func63, Tryz.ntmps63
  go_wp2_with (go_at_call 45; refine (lock_free Tryz.muLib ⟨L.wb, 0, none⟩ _ l0 lf).mono ?_; rintro e w' ⟨rfl, rfl⟩)
  refine (unhide hfn).mono ?_
  rintro e w2 ⟨V, rfl, hb, hown⟩
  go_wp2_with fail
  obtain ⟨k0, k2, kf, hLW⟩ := h.unread hb
  refine leaves_cons (f := 46) (args := #[.pointer (some ⟨L.wb, 0, none⟩)]) (by simp) (by simp [go_sem]) ?_
  refine (unlock_deferred Tryz.muLib ⟨L.wb, 0, none⟩ .returning _ k0 kf).mono ?_
  rintro e u' w'' ⟨rfl, rfl, rfl⟩
  have hsz : (w.setCell ⟨L.wb, 0, none⟩ (.int .i32 1)).heap.size = w.heap.size := by simp [World.setCell]
  rw [hsz] at hown
  refine ⟨_, results_tmp rfl _ _ _, V, by simp, below_back l0 hb, fun i hi => ?_, fun i => ?_, fun i hi => ?_⟩
  · rw [World.cell?_setCell_other _ _ _ _ (fun e => by have e := congrArg Addr.block e; dsimp only at e; omega)]; exact hown.1 i hi
  · rw [World.frozen?_setCell]; exact hown.2.1 i
  · exact ⟨ownsRow_setCell_below (hown.2.2 i hi).1 (by simp; omega) _, (hown.2.2 i hi).2⟩
end Go.Proofs.YtekbjlhbjcikdaaGreat
/-
  Records: the iterator's maker.
-/
namespace Go.Proofs.YtekbjlhbjcikdaaGreat
open Go.RowKit Acc

set_option maxRecDepth 100000 in
theorem records_any (w : World) (wb : Nat) :
    Calls Tryz.prog 32 #[.pointer (some ⟨wb, 0, none⟩)] w fun e w' => e = .returned (.func (.func 62) #[] #[.pointer (some ⟨w.heap.size, 0, none⟩)]) ∧ Below w.heap.size w w' ∧ w'.cell? ⟨w.heap.size, 0, none⟩ = some (.pointer (some ⟨wb, 0, none⟩)) := by
  go_enter Tryz.func32, Tryz.ntmps32
  go_wp2_with fail
  go_ret
  refine ⟨?_, below_alloc w _, by simp [go_sem]⟩
  rfl
end Go.Proofs.YtekbjlhbjcikdaaGreat
