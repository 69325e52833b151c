/-
  accordref: walk of does.
-/
import Derived.Test.YtekbjlhbjcikdaaGreatRM1
namespace Acc
theorem RSt.does_cons (r : RSt) (i : Nat) (a : Deed) (l : List Deed) : r.does i (a :: l) = if (r.nd i).fuse = 0 then (r.down i, false) else ((r.burn i).act i a).does i l := rfl
theorem RSt.act_log (r : RSt) (i : Nat) (a : Deed) (n : Nat) : (((r.burn i).act i a).nd n).log.length ≤ ((r.nd n).log).length + 1 := by
  have h1 : ((r.burn i).nd n).log = (r.nd n).log := by
    unfold RSt.burn
    split
    · simp only [RSt.setNode]; split
      · rename_i e; rw [e]
      · rfl
    · rfl
  cases a with
  | wrt t st =>
    simp only [RSt.act, RSt.write, RSt.setNode]
    split
    · rename_i e; subst e; simp [h1]
    · rw [h1]; omega
  | snd m => show ((r.burn i).nd n).log.length ≤ _; rw [h1]; omega
theorem RSt.act_parts (r : RSt) (i : Nat) (a : Deed) : ((r.burn i).act i a).parts = r.parts := by
  have h1 : (r.burn i).parts = r.parts := by unfold RSt.burn; split <;> rfl
  cases a <;> exact h1
end Acc
namespace Go.Proofs.YtekbjlhbjcikdaaGreat
open Go.RowKit Acc

set_option maxRecDepth 100000 in
set_option maxHeartbeats 4000000 in
theorem refDoes_any {w : World} {Y : RLay} {r : RSt} (h : RRep w Y r) (n : Nat) (hn : n ≤ r.parts) (hp5 : r.parts ≤ 5) (l : List Deed) (a : Option Addr) (cap : Nat) (ho : Owns w 173 7 ⟨a, l.length, cap⟩ (actCells l))
    (hfr : ∀ x, a = some x → Y.own x.block = none) (hll : ((r.nd n).log).length + l.length ≤ 1000000) (hfz : ∀ k, -1 ≤ (r.nd k).fuse ∧ (r.nd k).fuse < 9223372036854775808) :
    Calls Tryz.prog 141 #[.pointer (some ⟨Y.yb, 0, none⟩), .int .i64 n, .slice a l.length cap] w fun e w' => e = .returned (.bool (r.does n l).2) ∧ RLeaves Y w (r.does n l).1 w' := by
  obtain ⟨i0, hi, hz0, hz1, hz2⟩ := info_parts Tryz.infoRec
  go_enter Tryz.func141, Tryz.ntmps141
  go_wp2_with fail
  go_loopw [7] (fun i wr => ∃ (j : Nat) (Y1 : RLay) (r1 : RSt), j ≤ l.length ∧ i = .int .i64 (j : Int) ∧ (Y1.yb = Y.yb ∧ Y1.ab = Y.ab) ∧ RRep wr Y1 r1 ∧ Ext Y.own w Y1.own wr ∧ r1.parts = r.parts ∧
     ((r1.nd n).log).length + l.length ≤ 1000000 + j ∧ (-1 ≤ (r1.nd n).fuse ∧ (r1.nd n).fuse < 9223372036854775808) ∧ Hid (r.does n l = r1.does n (l.drop j))) (fun i _ => l.length - (intOf i).toNat)
  case atStart => exact ⟨0, Y, r, Nat.zero_le _, rfl, ⟨rfl, rfl⟩, h, Ext.refl _ _, rfl, by omega, hfz n, rfl⟩
  case round =>
    obtain ⟨j, Y1, r1, hj, rfl, he, hR, hE, hp, hlj, hfj, hd⟩ := hrel
    have HF := hide hfj
    have hn1 : n ≤ r1.parts := by omega
    have y0 := hR.y0
    have hac := hR.ac
    have n1 := hR.n1 n hn1
    rw [he.1, he.2] at y0
    rw [he.2] at n1
    by_cases hlt : j < l.length
    · have hx : l[j]? = some l[j] := List.getElem?_eq_getElem _
      have hdr : l.drop j = l[j] :: l.drop (j + 1) := (List.getElem_cons_drop ..).symm
      generalize l[j] = x at hx hdr
      rw [hdr, RSt.does_cons] at hd
      by_cases h0 : (r1.nd n).fuse = 0
      · have hdn := refDown_any hR n hn1 (by omega)
        rw [he.1] at hdn
        have HD := hide hdn
        have HR : Hid (r.does n l = (r1.down n, false)) := by show _ = _; rw [unhide hd, if_pos h0]
        rw [h0] at n1
        clear hd hdn h0 hdr hx hfj
        go_wp2_with fail
        refine (unhide HD).mono ?_
        rintro e w2 ⟨rfl, hl⟩
        go_wp2
        go_ret
        rw [unhide HR]
        exact ⟨rfl, RLeaves.trans he hE hl⟩
      · have ho1 : Owns wr 173 7 ⟨a, l.length, cap⟩ (actCells l) := ho.frame fun x hx => (hE.keep _ (ho.lt x hx) (hfr x hx)).1
        obtain ⟨g, ha, hcap, _, hc⟩ := ho1.at (by simp; omega)
        simp only at ha hcap
        subst ha
        have hg1 : Y1.own g = none := (hE.keep _ (ho.lt _ rfl) (hfr _ rfl)).2
        have hga : g ≠ Y.ab := by intro e; rw [e, ← he.2, hR.ta] at hg1; cases hg1
        have hgy : g ≠ Y.yb := by intro e; rw [e, ← he.1, hR.ty] at hg1; cases hg1
        have hcx := actCells_get l j x hx
        have HN : Hid (r.does n l = ((r1.burn n).act n x).does n (l.drop (j + 1))) := by show _ = _; rw [unhide hd, if_neg h0]
        have hbl := RSt.act_log r1 n x n
        have hbp := RSt.act_parts r1 n x
        by_cases hpos : 0 < (r1.nd n).fuse
        · have hb : r1.burn n = r1.setNode n { r1.nd n with fuse := (r1.nd n).fuse - 1 } := by unfold RSt.burn; rw [if_pos hpos]
          have hFF := hR.fused n hn1 ((r1.nd n).fuse - 1)
          rw [← hb, he.2] at hFF
          obtain ⟨Y2, he2, hR2, hE2⟩ := hFF
          have he' : Y2.yb = Y.yb ∧ Y2.ab = Y.ab := ⟨he2.1.trans he.1, he2.2.trans he.2⟩
          have hE' := hE.trans hE2
          have fz1 := hR.fa (n * 4 + 1)
          rw [he.2] at fz1
          have hp2 : (r1.burn n).parts = r1.parts := by rw [hb]; rfl
          have hfn : (r1.burn n).nd n = { r1.nd n with fuse := (r1.nd n).fuse - 1 } := by rw [hb]; exact RSt.setNode_at _ _ _
          have hln : ((r1.burn n).nd n).log = (r1.nd n).log := by rw [hfn]
          have hfq : -1 ≤ ((r1.burn n).nd n).fuse ∧ ((r1.burn n).nd n).fuse < 9223372036854775808 := by rw [hfn]; exact ⟨by show -1 ≤ (r1.nd n).fuse - 1; omega, by show (r1.nd n).fuse - 1 < _; omega⟩
          have HFQ := hide hfq
          have hya : Y.ab ≠ Y.yb := by have := tag_ne hR.ta hR.ty (by simp); rwa [he.1, he.2] at this
          have hya' := hya.symm
          have HW64 := hide (show wrap64 ((r1.nd n).fuse - 1) = (r1.nd n).fuse - 1 from by unfold wrap64; omega)
          clear hfq hb hfn
          cases x with
          | snd m =>
            have z0 : wr.cell? ⟨g, j * 7, none⟩ = some (.bool true) := hc _ _ (hcx 0 (by omega))
            have z3 : wr.cell? ⟨g, j * 7 + 3, none⟩ = some (.int .i64 m.kind) := hc _ _ (hcx 3 (by omega))
            have z4 : wr.cell? ⟨g, j * 7 + 4, none⟩ = some (.int .i64 m.frm) := hc _ _ (hcx 4 (by omega))
            have z5 : wr.cell? ⟨g, j * 7 + 5, none⟩ = some (.int .i64 m.to) := hc _ _ (hcx 5 (by omega))
            have z6 : wr.cell? ⟨g, j * 7 + 6, none⟩ = some (.int .i64 m.trans) := hc _ _ (hcx 6 (by omega))
            have HFL := refFly_any hR2 m
            rw [he'.1] at HFL
            have HFL := hide HFL
            have h0b : ((r1.nd n).fuse == 0) = false := by rw [beq_eq_false_iff_ne]; exact h0
            clear hc hcx hd hdr hx hfj h0
            go_wp2_with fail
            rw [unhide HW64]
            refine (unhide HFL).mono ?_
            rintro e w2 ⟨rfl, Y3, he3, hR3, hE3⟩
            go_wp2
            exact ⟨⟨j + 1, Y3, (r1.burn n).send m, by omega, by go_num, ⟨he3.1.trans he'.1, he3.2.trans he'.2⟩, hR3, hE'.trans hE3, hp2.trans hp, by show ((r1.burn n).nd n).log.length + _ ≤ _; rw [hln]; omega, unhide HFQ, HN⟩, by simp [intOf]; omega⟩
          | wrt t st =>
            have z0 : wr.cell? ⟨g, j * 7, none⟩ = some (.bool false) := hc _ _ (hcx 0 (by omega))
            have z1 : wr.cell? ⟨g, j * 7 + 1, none⟩ = some (.int .i64 t) := hc _ _ (hcx 1 (by omega))
            have z2 : wr.cell? ⟨g, j * 7 + 2, none⟩ = some (.int .i64 st) := hc _ _ (hcx 2 (by omega))
            have h0b : ((r1.nd n).fuse == 0) = false := by rw [beq_eq_false_iff_ne]; exact h0
            have n2 := hR.n2 n hn1
            rw [he.2] at n2
            have y2 := hR2.y0
            rw [he'.1, he'.2, hp2, hp] at y2
            have hac2 := hR2.ac
            rw [hp2, hp] at hac2
            have n22 := hR2.n2 n (by omega)
            rw [he'.2] at n22
            have hol := hR2.ol n (by omega)
            rw [hln] at hol
            have HL := hide (by have := hol.len; rw [recCells_length] at this; omega : (Y2.lv n).n = ((r1.nd n).log).length)
            have hn6 : (Y2.lv n).n ≤ 1000000 := by rw [unhide HL]; omega
            have q1 : (wr.setCell ⟨Y.ab, n * 4 + 1, none⟩ (.int .i64 ((r1.nd n).fuse - 1))).cell? ⟨g, j * 7 + 1, none⟩ = some (.int .i64 t) := (World.cell?_of_block (a := ⟨g, j * 7 + 1, none⟩) (block_setCell hga)).trans z1
            have q2 : (wr.setCell ⟨Y.ab, n * 4 + 1, none⟩ (.int .i64 ((r1.nd n).fuse - 1))).cell? ⟨g, j * 7 + 2, none⟩ = some (.int .i64 st) := (World.cell?_of_block (a := ⟨g, j * 7 + 2, none⟩) (block_setCell hga)).trans z2
            have HB := hide hbl
            have HLJ := hide hlj
            have hnp : (n : Int) < (r.parts : Int) + 1 := by omega
            have hjl : (j : Int) < (l.length : Int) := by omega
            clear hc hcx hd hdr hx hfj h0 hbl hlj
            go_wp2_with fail
            rw [unhide HW64]
            clear y0 n1 n2 z0 z1 z2 fz1 hac
            generalize wr.setCell ⟨Y.ab, n * 4 + 1, none⟩ (.int .i64 ((r1.nd n).fuse - 1)) = wq at *
            have hab := World.block_lt_of_cell? wq _ n22
            have hyl := World.block_lt_of_cell? wq _ y2
            have hgl := World.block_lt_of_cell? wq _ q1
            go_region_law (refine step_append_one rfl (.tmp 70) (.tmp 76) 33 rfl 43 i0 (.agg #[.int .i64 0, .int .i64 0]) 2 16 Tryz.underlying33 hi hz0 hz1 hz2 rfl (by decide) (Y2.lv n).a (Y2.lv n).n (Y2.lv n).cap (recCells (r1.nd n).log) rfl (by exact World.ownsRow.alloc hol _) ⟨wq.heap.size, 0, none⟩ 1 [.int .i64 t, .int .i64 st] rfl rfl (by exact new_cells_at _ [.int .i64 t, .int .i64 st] _ _ rfl) (fun x hx => by simp at hx; rcases hx with rfl | rfl <;> rfl) (by unfold maxLen; omega) (by omega) ?_; intro k cap' w3 g1 g2 g3; have hu := Upd.of_append' hR2.lt (hR2.tl n (by omega)) ((below_alloc _ _).drew) g1 g2 g3; have y03 := (World.cell?_of_block (a := ⟨Y2.yb, 0, none⟩) (hu.keep _ _ hR2.ty (by simp))).trans hR2.y0; have n23 := (World.cell?_of_block (a := ⟨Y2.ab, n * 4 + 2, none⟩) (hu.keep _ _ hR2.ta (by simp))).trans (hR2.n2 n (by omega)); have fa3 := (World.frozen?_of_block (a := ⟨Y2.ab, n * 4 + 2, none⟩) (hu.keep _ _ hR2.ta (by simp))).trans (hR2.fa (n * 4 + 2)); rw [he'.1, he'.2, hp2, hp] at y03; rw [he'.2] at n23 fa3; clear g2 g3)
            all_goals (try go_wp2)
            all_goals
              obtain ⟨Y3, he3, hR3, hE3⟩ := hR2.logged n t st (by omega) hu (by rw [recCells_append, hln]; exact g1)
              rw [he'.2] at hR3 hE3
              exact ⟨⟨j + 1, Y3, (r1.burn n).write n t st, by omega, by go_num, ⟨he3.1.trans he'.1, he3.2.trans he'.2⟩, hR3, hE'.trans hE3, hp2.trans hp, by have := unhide HB; have := unhide HLJ; show (((r1.burn n).write n t st).nd n).log.length + _ ≤ _; simp only [RSt.act] at *; omega, by simpa [RSt.write, RSt.setNode] using unhide HFQ, HN⟩, by simp [intOf]; omega⟩
        · have hb : r1.burn n = r1 := by unfold RSt.burn; rw [if_neg hpos]
          rw [hb] at HN hbl hbp
          cases x with
          | snd m =>
            have z0 : wr.cell? ⟨g, j * 7, none⟩ = some (.bool true) := hc _ _ (hcx 0 (by omega))
            have z3 : wr.cell? ⟨g, j * 7 + 3, none⟩ = some (.int .i64 m.kind) := hc _ _ (hcx 3 (by omega))
            have z4 : wr.cell? ⟨g, j * 7 + 4, none⟩ = some (.int .i64 m.frm) := hc _ _ (hcx 4 (by omega))
            have z5 : wr.cell? ⟨g, j * 7 + 5, none⟩ = some (.int .i64 m.to) := hc _ _ (hcx 5 (by omega))
            have z6 : wr.cell? ⟨g, j * 7 + 6, none⟩ = some (.int .i64 m.trans) := hc _ _ (hcx 6 (by omega))
            have HFL := refFly_any hR m
            rw [he.1] at HFL
            have HFL := hide HFL
            have h0b : ((r1.nd n).fuse == 0) = false := by rw [beq_eq_false_iff_ne]; exact h0
            clear hc hcx hd hdr hx hfj h0
            go_wp2_with fail
            refine (unhide HFL).mono ?_
            rintro e w2 ⟨rfl, Y3, he3, hR3, hE3⟩
            go_wp2
            exact ⟨⟨j + 1, Y3, r1.send m, by omega, by go_num, ⟨he3.1.trans he.1, he3.2.trans he.2⟩, hR3, hE.trans hE3, hp, by show (r1.nd n).log.length + _ ≤ _; omega, unhide HF, HN⟩, by simp [intOf]; omega⟩
          | wrt t st =>
            have z0 : wr.cell? ⟨g, j * 7, none⟩ = some (.bool false) := hc _ _ (hcx 0 (by omega))
            have z1 : wr.cell? ⟨g, j * 7 + 1, none⟩ = some (.int .i64 t) := hc _ _ (hcx 1 (by omega))
            have z2 : wr.cell? ⟨g, j * 7 + 2, none⟩ = some (.int .i64 st) := hc _ _ (hcx 2 (by omega))
            have h0b : ((r1.nd n).fuse == 0) = false := by rw [beq_eq_false_iff_ne]; exact h0
            have n2 := hR.n2 n hn1
            rw [he.2] at n2
            have hol := hR.ol n hn1
            have HL := hide (by have := hol.len; rw [recCells_length] at this; omega : (Y1.lv n).n = ((r1.nd n).log).length)
            have hn6 : (Y1.lv n).n ≤ 1000000 := by rw [unhide HL]; omega
            have HB := hide hbl
            have HLJ := hide hlj
            have hab := World.block_lt_of_cell? wr _ n2
            have hyl := World.block_lt_of_cell? wr _ y0
            have hgl := World.block_lt_of_cell? wr _ z0
            have hnp : (n : Int) < (r.parts : Int) + 1 := by omega
            have hjl : (j : Int) < (l.length : Int) := by omega
            clear hc hcx hd hdr hx hfj h0 hbl hlj
            go_wp2_with fail
            go_region_law (refine step_append_one rfl (.tmp 70) (.tmp 76) 33 rfl 43 i0 (.agg #[.int .i64 0, .int .i64 0]) 2 16 Tryz.underlying33 hi hz0 hz1 hz2 rfl (by decide) (Y1.lv n).a (Y1.lv n).n (Y1.lv n).cap (recCells (r1.nd n).log) rfl (by exact World.ownsRow.alloc hol _) ⟨wr.heap.size, 0, none⟩ 1 [.int .i64 t, .int .i64 st] rfl rfl (by exact new_cells_at _ [.int .i64 t, .int .i64 st] _ _ rfl) (fun x hx => by simp at hx; rcases hx with rfl | rfl <;> rfl) (by unfold maxLen; omega) (by omega) ?_; intro k cap' w3 g1 g2 g3; have hu := Upd.of_append' hR.lt (hR.tl n hn1) ((below_alloc _ _).drew) g1 g2 g3; have y03 := (World.cell?_of_block (a := ⟨Y1.yb, 0, none⟩) (hu.keep _ _ hR.ty (by simp))).trans hR.y0; have n23 := (World.cell?_of_block (a := ⟨Y1.ab, n * 4 + 2, none⟩) (hu.keep _ _ hR.ta (by simp))).trans (hR.n2 n hn1); have fa3 := (World.frozen?_of_block (a := ⟨Y1.ab, n * 4 + 2, none⟩) (hu.keep _ _ hR.ta (by simp))).trans (hR.fa (n * 4 + 2)); rw [he.1] at y03; rw [he.2] at y03 n23 fa3; clear g2 g3)
            all_goals (try go_wp2)
            all_goals
              obtain ⟨Y3, he3, hR3, hE3⟩ := hR.logged n t st hn1 hu (by rw [recCells_append]; exact g1)
              rw [he.2] at hR3 hE3
              exact ⟨⟨j + 1, Y3, r1.write n t st, by omega, by go_num, ⟨he3.1.trans he.1, he3.2.trans he.2⟩, hR3, hE.trans hE3, hp, by have := unhide HB; have := unhide HLJ; show ((r1.write n t st).nd n).log.length + _ ≤ _; simp only [RSt.act] at *; omega, by simpa [RSt.write, RSt.setNode] using unhide HF, HN⟩, by simp [intOf]; omega⟩
    · have hfin : Hid (r.does n l = (r1, true)) := by show _ = _; rw [unhide hd, List.drop_of_length_le (by omega)]; rfl
      clear hfj
      go_wp2
      go_ret
      rw [unhide hfin]
      exact ⟨rfl, Y1, he, hR, hE⟩
end Go.Proofs.YtekbjlhbjcikdaaGreat
