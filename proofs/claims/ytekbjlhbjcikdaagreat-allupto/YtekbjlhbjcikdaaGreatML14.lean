/-
  accordlaw: walk of step where a world is made.
-/
import Derived.Test.YtekbjlhbjcikdaaGreatLM3
namespace Go.Proofs.YtekbjlhbjcikdaaGreat
open Go.RowKit Acc

set_option maxRecDepth 100000 in
set_option maxHeartbeats 2000000 in
theorem step_New {w : World} {G : LLay} {S : LSt} {N B : Nat} (h : LRep w G S) (hs : LSync S N) (hok : ∀ (i : Nat) (p : St × RSt), S.ss[i]? = some p → p.1 = p.2.st ∧ ROk p.2 B) (hN : N + 4 ≤ 8000000) (W Bv : Int) (p : Nat) (h1 : 1 ≤ p) (h5 : p ≤ 5) (wa : Option Addr) (wn wc : Nat) :
    Calls Tryz.prog 35 #[.pointer (some ⟨G.lb, 0, none⟩), .agg #[.int .i64 1, .int .i64 W, .int .i64 p, .int .i64 Bv, .slice wa wn wc]] w fun e w' => e = .returned (.bool true) ∧ SOut G w S N B w' := by
  have hbA := below_alloc w (Obj.cells #[.int .i64 1, .int .i64 W, .int .i64 p, .int .i64 Bv, .slice wa wn wc] 72)
  have o2 : (w.alloc (Obj.cells #[.int .i64 1, .int .i64 W, .int .i64 p, .int .i64 Bv, .slice wa wn wc] 72)).cell? ⟨w.heap.size, 2, none⟩ = some (.int .i64 p) := by simp [go_sem]
  have lo := World.block_lt_of_cell? _ _ o2
  have HNX := hide (fun W => new_any W p h1 h5)
  have HNY := hide (fun W => refNew_any W p h1 h5)
  have HNM := hide (fun W => lawNum_any 0 W (by omega))
  obtain ⟨i1, hj1, hy0, hy1, hy2⟩ := info_parts Tryz.infoPair
  have n0 : (G.sv 0).n ≤ 8000000 := by rw [h.n0]; have := hs.lw; have := hs.hN; omega
  go_enter Tryz.func35, Tryz.ntmps35
  go_wp2_with fail
  generalize w.alloc (Obj.cells #[.int .i64 1, .int .i64 W, .int .i64 p, .int .i64 Bv, .slice wa wn wc] 72) = wA at *
  refine (unhide HNX _).mono ?_
  rintro e w1 ⟨L, rfl, hL, hb1, hLo⟩
  have o21 := (hb1.cell (p := ⟨w.heap.size, 2, none⟩) lo).trans o2
  clear HNX o2
  go_wp2_with fail
  refine (unhide HNY _).mono ?_
  rintro e w2 ⟨R, rfl, hR, hb2, hRo⟩
  clear HNY o21
  go_wp2_with fail
  refine (unhide HNM _).mono ?_
  rintro e w3 ⟨rfl, rfl⟩
  go_wp2_with fail
  refine (unhide HNM _).mono ?_
  rintro e w4 ⟨rfl, rfl⟩
  have hbW : Below w.heap.size w w4 := (hbA.more hb1).more hb2
  have hR4 := h.below hbW
  have c0 := hR4.c 0 (by omega)
  have z0 := hR4.fz 0
  have ne0 := hR4.lb_ne 0 (by omega)
  have lx := World.block_lt_of_cell? w4 _ c0
  have hA := hbA.size
  have h1s := hb1.size
  go_wp2_with (at_builtin; refine wpList_append_one rfl _ _ 64 rfl 105 i1 (.agg #[.pointer none, .pointer none]) 2 16 Tryz.underlying64 hj1 hy0 hy1 hy2 rfl (by decide) (G.sv 0).a (G.sv 0).n (G.sv 0).cap (pairCells G.X G.Y S.ss.length) rfl (World.ownsRow.alloc (show w4.ownsRow 0 105 2 (.slice (G.sv 0).a (G.sv 0).n (G.sv 0).cap) (G.sv 0).n (pairCells G.X G.Y S.ss.length) from hR4.o 0 (by omega)) _) ⟨w4.heap.size, 0, none⟩ 1 [.pointer (some ⟨L.wb, 0, none⟩), .pointer (some ⟨R.yb, 0, none⟩)] rfl rfl (new_cells _ _ _) (fun x hx => by simp at hx; rcases hx with rfl | rfl <;> rfl) (by unfold maxLen; omega) (by omega) ?_; intro k6 cap6 w6 o6 g6 p6; have hk6 := (g6.block G.lb (by simp; exact Nat.lt_succ_of_lt lx) ne0).trans ((below_alloc w4 _).block G.lb lx); have c36 := (World.cell?_of_block (a := ⟨G.lb, 0, none⟩) hk6).trans c0; have f36 := (World.frozen?_of_block (a := ⟨G.lb, 0, none⟩) hk6).trans z0)
  go_ret
  refine ⟨rfl, ?_⟩
  have f1 : ∀ b t, own2 L b = some t → G.own b = none := fun b t hb => h.free (by have := hLo b t hb; omega)
  have f2 : ∀ b t, R.own b = some t → G.own b = none ∧ own2 L b = none := fun b t hb => by
    have h2 := hRo b t hb
    refine ⟨h.free (by omega), ?_⟩
    cases ho : own2 L b with
    | none => rfl
    | some u => have := hL.olt ho; omega
  obtain ⟨G', e', hR', hE'⟩ := hR4.addW L R (St.new p) (RSt.new p) (hL.below hb2) hR f1 f2 (below_alloc w4 _) o6 g6 p6 (o6.lt k6 rfl).2
  refine ⟨_, ⟨G', e', hR', (((Ext.of_below hbW).retagged _ (.x S.ss.length) ?_).retagged _ (.y S.ss.length) ?_).trans hE'⟩, ⟨?_, ?_, ?_⟩⟩
  · intro b hb
    cases ho : own2 L b with
    | none => simp [ho] at hb
    | some t => left; have := hLo b t ho; omega
  · intro b hb
    cases ho : R.own b with
    | none => simp [ho] at hb
    | some t => left; have := hRo b t ho; omega
  · have := hs.mono (Nat.le_add_right N 4) hN
    exact ⟨this.m, this.r, this.lm, this.lr, this.le, by have := hs.lw; show (S.ss ++ [(St.new p, RSt.new p)]).length ≤ N + 4; rw [List.length_append]; simp; omega, hN⟩
  · intro i x hx
    rcases get_more _ _ _ _ hx with ⟨hi, hx⟩ | ⟨q, rfl, hx2⟩
    · exact ⟨(hok i x hx).1, (hok i x hx).2.mono (Nat.le_succ _)⟩
    · match q, hx2 with
      | 0, hx2 =>
        simp at hx2
        subst hx2
        exact ⟨rfl, ROk.of (Ok.new p h1 h5) ((RFz.new p).mono (Nat.zero_le _))⟩
      | q + 1, hx2 => simp at hx2
  · show 0 < (S.ss ++ [(St.new p, RSt.new p)]).length
    rw [List.length_append]; simp

set_option maxRecDepth 100000 in
set_option maxHeartbeats 2000000 in
theorem step_NewNot {w : World} {G : LLay} {S : LSt} {N B : Nat} (h : LRep w G S) (hi : LInv S N B) (hN : N + 4 ≤ 8000000) (W A Bv : Int) (hA : ¬ (1 ≤ A ∧ A ≤ 5)) (wa : Option Addr) (wn wc : Nat) :
    Calls Tryz.prog 35 #[.pointer (some ⟨G.lb, 0, none⟩), .agg #[.int .i64 1, .int .i64 W, .int .i64 A, .int .i64 Bv, .slice wa wn wc]] w fun e w' => e = .returned (.bool true) ∧ SOut G w S N B w' := by
  have hbA := below_alloc w (Obj.cells #[.int .i64 1, .int .i64 W, .int .i64 A, .int .i64 Bv, .slice wa wn wc] 72)
  have o2 : (w.alloc (Obj.cells #[.int .i64 1, .int .i64 W, .int .i64 A, .int .i64 Bv, .slice wa wn wc] 72)).cell? ⟨w.heap.size, 2, none⟩ = some (.int .i64 A) := by simp [go_sem]
  have HNX := hide (fun W => new_not W A hA)
  have HNY := hide (fun W => refNew_not W A hA)
  have HNM := hide (fun W => lawNum_any 1 W (by omega))
  clear hA
  go_enter Tryz.func35, Tryz.ntmps35
  go_wp2_with fail
  generalize w.alloc (Obj.cells #[.int .i64 1, .int .i64 W, .int .i64 A, .int .i64 Bv, .slice wa wn wc] 72) = wA at *
  refine (unhide HNX _).mono ?_
  rintro e w1 ⟨rfl, rfl⟩
  go_wp2_with fail
  refine (unhide HNY _).mono ?_
  rintro e w2 ⟨rfl, rfl⟩
  go_wp2_with fail
  refine (unhide HNM _).mono ?_
  rintro e w3 ⟨rfl, rfl⟩
  go_wp2_with fail
  refine (unhide HNM _).mono ?_
  rintro e w4 ⟨rfl, rfl⟩
  go_wp2
  go_ret
  exact ⟨rfl, SOut.below hbA (((h.below hbA).same (Below.refl _ _)).step hi hN)⟩
end Go.Proofs.YtekbjlhbjcikdaaGreat
