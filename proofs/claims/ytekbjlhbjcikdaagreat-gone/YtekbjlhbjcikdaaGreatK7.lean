/-
  Walk of accordkeep's step, where nothing is begun; the whole step.
-/
import Derived.Test.YtekbjlhbjcikdaaGreatK6
namespace Go.Proofs.YtekbjlhbjcikdaaGreat
open Go.RowKit Acc Go.MuLone

set_option maxRecDepth 100000 in
set_option maxHeartbeats 4000000 in
theorem step_begin_down {o : Nat → Option Unit} {w0 w1 : World} {rb wb : Nat} {s : St} (h : Kt o w0 rb wb w1 s) (K A B C : Int) (hK : inI K) (hA : inI A) (hB : inI B) (hC : inI C) (hk : ¬ 1 < pickI K 12) (hu : s.up 0 = false) :
    Calls Tryz.prog 16 #[.pointer (some ⟨rb, 0, none⟩), .agg #[.int .i64 K, .int .i64 A, .int .i64 B, .int .i64 C]] w1 fun e w' => e = .returned (.bool true) ∧ Kt o w0 rb wb w' (stepP s K A B C) := by
  have hpr := pickI_range K 12 (by omega)
  have hpk := hide (fun w => pick_any K 12 w (by omega) (by omega) hK.1 hK.2)
  have hb1 := below_alloc w1 (Obj.cells #[.int .i64 K, .int .i64 A, .int .i64 B, .int .i64 C] 31)
  obtain ⟨o', hfree, h1, hback⟩ := h.rebase hb1
  have hp3 := h.ok.2
  have hok := h.ok.1
  have hso := writesOf_sound A B C s.parts (by omega)
  have hP : Hid (stepP s K A B C = s) := by
    show _ = _
    unfold stepP
    rw [if_neg (by omega), if_neg hk]
    unfold St.beginP
    rw [if_pos hso, if_neg (by simp [hu])]
  have hBP : Hid (s.beginP (writesOf A B C) = (s, (0, 2))) := by
    show _ = _
    unfold St.beginP
    rw [if_pos hso, if_neg (by simp [hu])]
  have hwr := hide (fun w => writes_any K A B C w hA.1 hA.2 hB.1 hB.2 hC.1 hC.2)
  have hup := up_kt h1 0
  have hu0 : s.upP 0 = (false, 0) := by unfold St.upP; rw [if_pos (by omega)]; simp [hu]
  rw [hu0] at hup
  have HUP := hide hup
  have r0 := h1.cells.1
  have HSO := hide hso
  have hlt1 : w1.heap.size < (w1.alloc (Obj.cells #[.int .i64 K, .int .i64 A, .int .i64 B, .int .i64 C] 31)).heap.size := by simp
  have x0 : (w1.alloc (Obj.cells #[.int .i64 K, .int .i64 A, .int .i64 B, .int .i64 C] 31)).cell? ⟨w1.heap.size, 0, none⟩ = some (.int .i64 K) := by simp [go_sem]
  have x1 : (w1.alloc (Obj.cells #[.int .i64 K, .int .i64 A, .int .i64 B, .int .i64 C] 31)).cell? ⟨w1.heap.size, 1, none⟩ = some (.int .i64 A) := by simp [go_sem]
  have x2 : (w1.alloc (Obj.cells #[.int .i64 K, .int .i64 A, .int .i64 B, .int .i64 C] 31)).cell? ⟨w1.heap.size, 2, none⟩ = some (.int .i64 B) := by simp [go_sem]
  have x3 : (w1.alloc (Obj.cells #[.int .i64 K, .int .i64 A, .int .i64 B, .int .i64 C] 31)).cell? ⟨w1.heap.size, 3, none⟩ = some (.int .i64 C) := by simp [go_sem]
  clear hup hu0 hso hb1
  generalize hW1 : w1.alloc (Obj.cells #[.int .i64 K, .int .i64 A, .int .i64 B, .int .i64 C] 31) = W1 at *
  generalize hk0 : pickI K 12 = k0 at *
  have hbox : ∀ w s', Kt o' W1 rb wb w s' → ∀ q, w.cell? ⟨w1.heap.size, q, none⟩ = W1.cell? ⟨w1.heap.size, q, none⟩ := fun w s' hh q => World.cell?_of_block (a := ⟨w1.heap.size, q, none⟩) (hh.keep hlt1 (hfree _ (Nat.le_refl _)))
  have HBX := hide hbox
  have HFR := hide hfree
  have HHB := hide hback
  have HOK := hide hok
  have HW1 := hide hW1
  have HLT := hide hlt1
  clear hbox hfree hback hok hk0 hlt1 h hp3
  go_enter Tryz.func16, Tryz.ntmps16
  go_wp2_with fail
  clear hW1
  refine (unhide hpk _).mono ?_
  rintro e w2 ⟨rfl, rfl⟩
  go_wp2_with fail
  refine (unhide HUP).mono ?_
  rintro e w3 ⟨rfl, h3⟩
  have y0 := (unhide HBX _ _ h3 0).trans x0
  have y1 := (unhide HBX _ _ h3 1).trans x1
  have y2 := (unhide HBX _ _ h3 2).trans x2
  have y3 := (unhide HBX _ _ h3 3).trans x3
  have r3 := h3.cells.1
  go_wp2_with fail
  refine (unhide hwr _).mono ?_
  rintro e w4 ⟨la, lc, rfl, hb4, hl4⟩
  have h4 := h3.below hb4
  have hws := writesOf_len A B C
  generalize writesOf A B C = ws at *
  have HW := hide hws
  obtain ⟨L, KK, rfl, rfl, hp, hE4⟩ := h4
  have hO4 := Owns.of_row (ownsRow_mono hl4 (Nat.zero_le _))
  have hlw : ∀ a, la = some a → w3.heap.size ≤ a.block := by
    intro a ha
    have := hl4.lt a.block (by rw [ha]; rfl)
    exact this.1
  have hbgn := begin_any hp.rep hp.ok la ws.length lc ws rfl (by unfold maxLen; omega) hO4.cap_le.1 hO4.wrAt.2 (by
    intro ad had
    have := hlw ad had
    obtain ⟨L3, K3, _, e3, hp3', _⟩ := h3
    have := hp3'.rep.wlt
    omega)
  rw [unhide hBP] at hbgn
  have HBG := hide hbgn
  have r4 := hp.run.r0
  clear hbgn y0 y1 y2 y3
  go_wp2_with fail
  refine (unhide HBG).mono ?_
  rintro e w5 ⟨rfl, hl5⟩
  have h5 : Kt o' w2 KK.rb L.wb w5 s := Kt.trans hE4 (hp.leaves hl5 rfl rfl hp.ok)
  obtain ⟨r50, a5, c5, r51⟩ := h5.cells
  clear hl5 hE4 hl4 hO4 hlw HBG h3 r3 r4 hb4 x0 x1 x2 x3 HUP h1 r0
  go_wp2
  go_ret
  refine ⟨by first | rfl | simp, ?_⟩
  rw [unhide hP]
  exact unhide HHB _ _ h5

set_option maxRecDepth 100000 in
set_option maxHeartbeats 4000000 in
theorem step_begin_full {o : Nat → Option Unit} {w0 w1 : World} {rb wb : Nat} {s : St} (h : Kt o w0 rb wb w1 s) (K A B C : Int) (hK : inI K) (hA : inI A) (hB : inI B) (hC : inI C) (hk : ¬ 1 < pickI K 12) (hu : s.up 0 = true) (hd : ¬ s.deals.length < 12) :
    Calls Tryz.prog 16 #[.pointer (some ⟨rb, 0, none⟩), .agg #[.int .i64 K, .int .i64 A, .int .i64 B, .int .i64 C]] w1 fun e w' => e = .returned (.bool true) ∧ Kt o w0 rb wb w' (stepP s K A B C) := by
  have hpr := pickI_range K 12 (by omega)
  have hpk := hide (fun w => pick_any K 12 w (by omega) (by omega) hK.1 hK.2)
  have hb1 := below_alloc w1 (Obj.cells #[.int .i64 K, .int .i64 A, .int .i64 B, .int .i64 C] 31)
  obtain ⟨o', hfree, h1, hback⟩ := h.rebase hb1
  have hp3 := h.ok.2
  have hok := h.ok.1
  have hso := writesOf_sound A B C s.parts (by omega)
  have hP : Hid (stepP s K A B C = s) := by
    show _ = _
    unfold stepP
    rw [if_neg (by omega), if_neg hk]
    unfold St.beginP
    rw [if_pos hso, if_pos hu, if_neg hd]
  have hBP : Hid (s.beginP (writesOf A B C) = (s, (0, 4))) := by
    show _ = _
    unfold St.beginP
    rw [if_pos hso, if_pos hu, if_neg hd]
  have hwr := hide (fun w => writes_any K A B C w hA.1 hA.2 hB.1 hB.2 hC.1 hC.2)
  have hup := up_kt h1 0
  have hu0 : s.upP 0 = (true, 0) := by unfold St.upP; rw [if_pos (by omega)]; simp [hu]
  rw [hu0] at hup
  have HUP := hide hup
  have r0 := h1.cells.1
  have HSO := hide hso
  have hlt1 : w1.heap.size < (w1.alloc (Obj.cells #[.int .i64 K, .int .i64 A, .int .i64 B, .int .i64 C] 31)).heap.size := by simp
  have x0 : (w1.alloc (Obj.cells #[.int .i64 K, .int .i64 A, .int .i64 B, .int .i64 C] 31)).cell? ⟨w1.heap.size, 0, none⟩ = some (.int .i64 K) := by simp [go_sem]
  have x1 : (w1.alloc (Obj.cells #[.int .i64 K, .int .i64 A, .int .i64 B, .int .i64 C] 31)).cell? ⟨w1.heap.size, 1, none⟩ = some (.int .i64 A) := by simp [go_sem]
  have x2 : (w1.alloc (Obj.cells #[.int .i64 K, .int .i64 A, .int .i64 B, .int .i64 C] 31)).cell? ⟨w1.heap.size, 2, none⟩ = some (.int .i64 B) := by simp [go_sem]
  have x3 : (w1.alloc (Obj.cells #[.int .i64 K, .int .i64 A, .int .i64 B, .int .i64 C] 31)).cell? ⟨w1.heap.size, 3, none⟩ = some (.int .i64 C) := by simp [go_sem]
  clear hup hu0 hso hb1
  generalize hW1 : w1.alloc (Obj.cells #[.int .i64 K, .int .i64 A, .int .i64 B, .int .i64 C] 31) = W1 at *
  generalize hk0 : pickI K 12 = k0 at *
  have hbox : ∀ w s', Kt o' W1 rb wb w s' → ∀ q, w.cell? ⟨w1.heap.size, q, none⟩ = W1.cell? ⟨w1.heap.size, q, none⟩ := fun w s' hh q => World.cell?_of_block (a := ⟨w1.heap.size, q, none⟩) (hh.keep hlt1 (hfree _ (Nat.le_refl _)))
  have HBX := hide hbox
  have HFR := hide hfree
  have HHB := hide hback
  have HOK := hide hok
  have HW1 := hide hW1
  have HLT := hide hlt1
  clear hbox hfree hback hok hk0 hlt1 h hp3
  go_enter Tryz.func16, Tryz.ntmps16
  go_wp2_with fail
  clear hW1
  refine (unhide hpk _).mono ?_
  rintro e w2 ⟨rfl, rfl⟩
  go_wp2_with fail
  refine (unhide HUP).mono ?_
  rintro e w3 ⟨rfl, h3⟩
  have y0 := (unhide HBX _ _ h3 0).trans x0
  have y1 := (unhide HBX _ _ h3 1).trans x1
  have y2 := (unhide HBX _ _ h3 2).trans x2
  have y3 := (unhide HBX _ _ h3 3).trans x3
  have r3 := h3.cells.1
  go_wp2_with fail
  refine (unhide hwr _).mono ?_
  rintro e w4 ⟨la, lc, rfl, hb4, hl4⟩
  have h4 := h3.below hb4
  have hws := writesOf_len A B C
  generalize writesOf A B C = ws at *
  have HW := hide hws
  obtain ⟨L, KK, rfl, rfl, hp, hE4⟩ := h4
  have hO4 := Owns.of_row (ownsRow_mono hl4 (Nat.zero_le _))
  have hlw : ∀ a, la = some a → w3.heap.size ≤ a.block := by
    intro a ha
    have := hl4.lt a.block (by rw [ha]; rfl)
    exact this.1
  have hbgn := begin_any hp.rep hp.ok la ws.length lc ws rfl (by unfold maxLen; omega) hO4.cap_le.1 hO4.wrAt.2 (by
    intro ad had
    have := hlw ad had
    obtain ⟨L3, K3, _, e3, hp3', _⟩ := h3
    have := hp3'.rep.wlt
    omega)
  rw [unhide hBP] at hbgn
  have HBG := hide hbgn
  have r4 := hp.run.r0
  clear hbgn y0 y1 y2 y3
  go_wp2_with fail
  refine (unhide HBG).mono ?_
  rintro e w5 ⟨rfl, hl5⟩
  have h5 : Kt o' w2 KK.rb L.wb w5 s := Kt.trans hE4 (hp.leaves hl5 rfl rfl hp.ok)
  obtain ⟨r50, a5, c5, r51⟩ := h5.cells
  have h12 := hp.ok.inv.d12
  have hl12 : s.deals.length = 12 := by omega
  rw [hl12] at r51
  clear h12 hl12 hd
  clear hl5 hE4 hl4 hO4 hlw HBG h3 r3 r4 hb4 x0 x1 x2 x3 HUP h1 r0
  go_wp2
  go_ret
  refine ⟨by first | rfl | simp, ?_⟩
  rw [unhide hP]
  exact unhide HHB _ _ h5

theorem step_any {o : Nat → Option Unit} {w0 w1 : World} {rb wb : Nat} {s : St} (h : Kt o w0 rb wb w1 s) (K A B C : Int) (hK : inI K) (hA : inI A) (hB : inI B) (hC : inI C) :
    Calls Tryz.prog 16 #[.pointer (some ⟨rb, 0, none⟩), .agg #[.int .i64 K, .int .i64 A, .int .i64 B, .int .i64 C]] w1 fun e w' => e = .returned (.bool true) ∧ Kt o w0 rb wb w' (stepP s K A B C) := by
  by_cases hk : 1 < pickI K 12
  · exact step_act h K A B C hK hA hB hk
  · cases hu : s.up 0 with
    | false => exact step_begin_down h K A B C hK hA hB hC hk hu
    | true =>
      by_cases hd : s.deals.length < 12
      · exact step_begin_ok h K A B C hK hA hB hC hk hu hd
      · exact step_begin_full h K A B C hK hA hB hC hk hu hd

end Go.Proofs.YtekbjlhbjcikdaaGreat
