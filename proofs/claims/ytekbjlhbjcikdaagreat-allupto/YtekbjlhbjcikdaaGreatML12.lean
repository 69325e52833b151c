/-
  accordlaw: walks of step, kind by kind.
-/
import Derived.Test.YtekbjlhbjcikdaaGreatLM3
import Derived.Deep.RegionHeld3
import Derived.BigQuiet
import Derived.Deep.QuietTactic
namespace Go.Proofs.YtekbjlhbjcikdaaGreat
open Go.RowKit Acc

set_option maxRecDepth 100000 in
set_option maxHeartbeats 1000000 in
theorem step_Deliver {w : World} {G : LLay} {S : LSt} {N B : Nat} (h : LRep w G S) (hi : LInv S N B) (hN : N + 4 ≤ 8000000) (hB : B ≤ 8000000) (W A Bv : Int) (hW : -9223372036854775808 ≤ W ∧ W ≤ 9223372036854775807) (hBv : Bv < 9223372036854775808) (wa : Option Addr) (wn wc : Nat) :
    Calls Tryz.prog 35 #[.pointer (some ⟨G.lb, 0, none⟩), .agg #[.int .i64 3, .int .i64 W, .int .i64 A, .int .i64 Bv, .slice wa wn wc]] w fun e w' => e = .returned (.bool true) ∧ SOut G w S N B w' := by
  have hbA := below_alloc w (Obj.cells #[.int .i64 3, .int .i64 W, .int .i64 A, .int .i64 Bv, .slice wa wn wc] 72)
  have hRA := h.below hbA
  have hn0 := h.n0
  have hlw := hi.sync.lw
  have hne := hi.ne
  have c0 := hRA.c 0 (by omega)
  rw [hn0] at c0
  obtain ⟨g0, e0, hg0c, _, hcell⟩ := (hRA.o 0 (by omega)).at (by rw [hn0]; exact hne)
  rw [e0] at c0
  rw [hn0] at hg0c
  have hr := lpick_range W S.ss.length (by omega)
  have HPK := hide (fun Wd => lawPick_any W S.ss.length Wd (by omega) (by omega) hW.1 hW.2)
  obtain ⟨q, hq⟩ : ∃ q : Nat, lpick W S.ss.length = q := ⟨(lpick W S.ss.length).toNat, by omega⟩
  have hql : q < S.ss.length := by omega
  rw [hq] at HPK
  obtain ⟨x0, x1⟩ := pairCells_get G.X G.Y S.ss.length q hql
  have x0 := hcell _ _ x0
  have x1 := hcell _ _ x1
  have hlen : S.ss.length ≤ 8000000 := by omega
  have o0 : (w.alloc (Obj.cells #[.int .i64 3, .int .i64 W, .int .i64 A, .int .i64 Bv, .slice wa wn wc] 72)).cell? ⟨w.heap.size, 0, none⟩ = some (.int .i64 3) := by simp [go_sem]
  have o1 : (w.alloc (Obj.cells #[.int .i64 3, .int .i64 W, .int .i64 A, .int .i64 Bv, .slice wa wn wc] 72)).cell? ⟨w.heap.size, 1, none⟩ = some (.int .i64 W) := by simp [go_sem]
  have o2 : (w.alloc (Obj.cells #[.int .i64 3, .int .i64 W, .int .i64 A, .int .i64 Bv, .slice wa wn wc] 72)).cell? ⟨w.heap.size, 2, none⟩ = some (.int .i64 A) := by simp [go_sem]
  have o3 : (w.alloc (Obj.cells #[.int .i64 3, .int .i64 W, .int .i64 A, .int .i64 Bv, .slice wa wn wc] 72)).cell? ⟨w.heap.size, 3, none⟩ = some (.int .i64 Bv) := by simp [go_sem]
  have o4 : (w.alloc (Obj.cells #[.int .i64 3, .int .i64 W, .int .i64 A, .int .i64 Bv, .slice wa wn wc] 72)).cell? ⟨w.heap.size, 4, none⟩ = some (.slice wa wn wc) := by simp [go_sem]
  obtain ⟨r, hp, hk⟩ : ∃ r, S.ss[q]? = some (r.st, r) ∧ ROk r B := by
    have hpq : S.ss[q]? = some S.ss[q] := List.getElem?_eq_getElem hql
    have := hi.ok q _ hpq
    exact ⟨S.ss[q].2, by rw [hpq, ← this.1], this.2⟩
  clear hcell hr
  go_enter Tryz.func35, Tryz.ntmps35
  go_wp2_with fail
  generalize w.alloc (Obj.cells #[.int .i64 3, .int .i64 W, .int .i64 A, .int .i64 Bv, .slice wa wn wc] 72) = wA at *
  have l0 := World.block_lt_of_cell? wA _ c0
  have lx := World.block_lt_of_cell? wA _ x0
  have lo := World.block_lt_of_cell? wA _ o1
  have hqi : (q : Int) < (S.ss.length : Int) := by omega
  go_region_held3 (fun w' => w'.cell? ⟨G.lb, 0, none⟩ = some (.slice (some ⟨g0, 0, none⟩) S.ss.length (G.sv 0).cap) ∧ w'.cell? ⟨w.heap.size, 1, none⟩ = some (.int .i64 W) ∧ w'.cell? ⟨g0, q * 2, none⟩ = some (.pointer (some ⟨(G.X q).wb, 0, none⟩)) ∧ w'.cell? ⟨g0, q * 2 + 1, none⟩ = some (.pointer (some ⟨(G.Y q).yb, 0, none⟩))) (go_keep)
    (first
      | (go_at_call 67; refine (unhide HPK _).mono ?_; rintro e wz ⟨rfl, rfl⟩))
  all_goals
    have hbP := (below_alloc wA (Obj.cells #[.pointer (some ⟨(G.X q).wb, 0, none⟩), .pointer (some ⟨(G.Y q).yb, 0, none⟩)] 105)).drew
    have y0 : (wA.alloc (Obj.cells #[.pointer (some ⟨(G.X q).wb, 0, none⟩), .pointer (some ⟨(G.Y q).yb, 0, none⟩)] 105)).drew.cell? ⟨wA.heap.size, 0, none⟩ = some (.pointer (some ⟨(G.X q).wb, 0, none⟩)) := by simp [go_sem]
    have y1 : (wA.alloc (Obj.cells #[.pointer (some ⟨(G.X q).wb, 0, none⟩), .pointer (some ⟨(G.Y q).yb, 0, none⟩)] 105)).drew.cell? ⟨wA.heap.size, 1, none⟩ = some (.pointer (some ⟨(G.Y q).yb, 0, none⟩)) := by simp [go_sem]
    have o0 := (hbP.cell (p := ⟨w.heap.size, 0, none⟩) lo).trans o0
    have o1 := (hbP.cell (p := ⟨w.heap.size, 1, none⟩) lo).trans o1
    have o2 := (hbP.cell (p := ⟨w.heap.size, 2, none⟩) lo).trans o2
    have o3 := (hbP.cell (p := ⟨w.heap.size, 3, none⟩) lo).trans o3
    have o4 := (hbP.cell (p := ⟨w.heap.size, 4, none⟩) lo).trans o4
    have hRP := hRA.below hbP
    have hbW := hbA.more hbP
    generalize (wA.alloc (Obj.cells #[.pointer (some ⟨(G.X q).wb, 0, none⟩), .pointer (some ⟨(G.Y q).yb, 0, none⟩)] 105)).drew = wP at *
    have HC := hide (moves_Deliver hRP hp hk hB W A Bv hBv wa wn wc)
    clear c0 x0 x1 HPK
    go_wp2_with fail
    refine (unhide HC).mono ?_
    rintro e w5 ⟨rfl, ho⟩
    go_wp2
    go_ret
    exact ⟨rfl, SOut.below hbW (ho.step hi hN)⟩

set_option maxRecDepth 100000 in
set_option maxHeartbeats 1000000 in
theorem step_Drop {w : World} {G : LLay} {S : LSt} {N B : Nat} (h : LRep w G S) (hi : LInv S N B) (hN : N + 4 ≤ 8000000) (hB : B ≤ 8000000) (W A Bv : Int) (hW : -9223372036854775808 ≤ W ∧ W ≤ 9223372036854775807) (hBv : Bv < 9223372036854775808) (wa : Option Addr) (wn wc : Nat) :
    Calls Tryz.prog 35 #[.pointer (some ⟨G.lb, 0, none⟩), .agg #[.int .i64 9, .int .i64 W, .int .i64 A, .int .i64 Bv, .slice wa wn wc]] w fun e w' => e = .returned (.bool true) ∧ SOut G w S N B w' := by
  have hbA := below_alloc w (Obj.cells #[.int .i64 9, .int .i64 W, .int .i64 A, .int .i64 Bv, .slice wa wn wc] 72)
  have hRA := h.below hbA
  have hn0 := h.n0
  have hlw := hi.sync.lw
  have hne := hi.ne
  have c0 := hRA.c 0 (by omega)
  rw [hn0] at c0
  obtain ⟨g0, e0, hg0c, _, hcell⟩ := (hRA.o 0 (by omega)).at (by rw [hn0]; exact hne)
  rw [e0] at c0
  rw [hn0] at hg0c
  have hr := lpick_range W S.ss.length (by omega)
  have HPK := hide (fun Wd => lawPick_any W S.ss.length Wd (by omega) (by omega) hW.1 hW.2)
  obtain ⟨q, hq⟩ : ∃ q : Nat, lpick W S.ss.length = q := ⟨(lpick W S.ss.length).toNat, by omega⟩
  have hql : q < S.ss.length := by omega
  rw [hq] at HPK
  obtain ⟨x0, x1⟩ := pairCells_get G.X G.Y S.ss.length q hql
  have x0 := hcell _ _ x0
  have x1 := hcell _ _ x1
  have hlen : S.ss.length ≤ 8000000 := by omega
  have o0 : (w.alloc (Obj.cells #[.int .i64 9, .int .i64 W, .int .i64 A, .int .i64 Bv, .slice wa wn wc] 72)).cell? ⟨w.heap.size, 0, none⟩ = some (.int .i64 9) := by simp [go_sem]
  have o1 : (w.alloc (Obj.cells #[.int .i64 9, .int .i64 W, .int .i64 A, .int .i64 Bv, .slice wa wn wc] 72)).cell? ⟨w.heap.size, 1, none⟩ = some (.int .i64 W) := by simp [go_sem]
  have o2 : (w.alloc (Obj.cells #[.int .i64 9, .int .i64 W, .int .i64 A, .int .i64 Bv, .slice wa wn wc] 72)).cell? ⟨w.heap.size, 2, none⟩ = some (.int .i64 A) := by simp [go_sem]
  have o3 : (w.alloc (Obj.cells #[.int .i64 9, .int .i64 W, .int .i64 A, .int .i64 Bv, .slice wa wn wc] 72)).cell? ⟨w.heap.size, 3, none⟩ = some (.int .i64 Bv) := by simp [go_sem]
  have o4 : (w.alloc (Obj.cells #[.int .i64 9, .int .i64 W, .int .i64 A, .int .i64 Bv, .slice wa wn wc] 72)).cell? ⟨w.heap.size, 4, none⟩ = some (.slice wa wn wc) := by simp [go_sem]
  obtain ⟨r, hp, hk⟩ : ∃ r, S.ss[q]? = some (r.st, r) ∧ ROk r B := by
    have hpq : S.ss[q]? = some S.ss[q] := List.getElem?_eq_getElem hql
    have := hi.ok q _ hpq
    exact ⟨S.ss[q].2, by rw [hpq, ← this.1], this.2⟩
  clear hcell hr
  go_enter Tryz.func35, Tryz.ntmps35
  go_wp2_with fail
  generalize w.alloc (Obj.cells #[.int .i64 9, .int .i64 W, .int .i64 A, .int .i64 Bv, .slice wa wn wc] 72) = wA at *
  have l0 := World.block_lt_of_cell? wA _ c0
  have lx := World.block_lt_of_cell? wA _ x0
  have lo := World.block_lt_of_cell? wA _ o1
  have hqi : (q : Int) < (S.ss.length : Int) := by omega
  go_region_held3 (fun w' => w'.cell? ⟨G.lb, 0, none⟩ = some (.slice (some ⟨g0, 0, none⟩) S.ss.length (G.sv 0).cap) ∧ w'.cell? ⟨w.heap.size, 1, none⟩ = some (.int .i64 W) ∧ w'.cell? ⟨g0, q * 2, none⟩ = some (.pointer (some ⟨(G.X q).wb, 0, none⟩)) ∧ w'.cell? ⟨g0, q * 2 + 1, none⟩ = some (.pointer (some ⟨(G.Y q).yb, 0, none⟩))) (go_keep)
    (first
      | (go_at_call 67; refine (unhide HPK _).mono ?_; rintro e wz ⟨rfl, rfl⟩))
  all_goals
    have hbP := (below_alloc wA (Obj.cells #[.pointer (some ⟨(G.X q).wb, 0, none⟩), .pointer (some ⟨(G.Y q).yb, 0, none⟩)] 105)).drew
    have y0 : (wA.alloc (Obj.cells #[.pointer (some ⟨(G.X q).wb, 0, none⟩), .pointer (some ⟨(G.Y q).yb, 0, none⟩)] 105)).drew.cell? ⟨wA.heap.size, 0, none⟩ = some (.pointer (some ⟨(G.X q).wb, 0, none⟩)) := by simp [go_sem]
    have y1 : (wA.alloc (Obj.cells #[.pointer (some ⟨(G.X q).wb, 0, none⟩), .pointer (some ⟨(G.Y q).yb, 0, none⟩)] 105)).drew.cell? ⟨wA.heap.size, 1, none⟩ = some (.pointer (some ⟨(G.Y q).yb, 0, none⟩)) := by simp [go_sem]
    have o0 := (hbP.cell (p := ⟨w.heap.size, 0, none⟩) lo).trans o0
    have o1 := (hbP.cell (p := ⟨w.heap.size, 1, none⟩) lo).trans o1
    have o2 := (hbP.cell (p := ⟨w.heap.size, 2, none⟩) lo).trans o2
    have o3 := (hbP.cell (p := ⟨w.heap.size, 3, none⟩) lo).trans o3
    have o4 := (hbP.cell (p := ⟨w.heap.size, 4, none⟩) lo).trans o4
    have hRP := hRA.below hbP
    have hbW := hbA.more hbP
    generalize (wA.alloc (Obj.cells #[.pointer (some ⟨(G.X q).wb, 0, none⟩), .pointer (some ⟨(G.Y q).yb, 0, none⟩)] 105)).drew = wP at *
    have HC := hide (moves_Drop hRP hp hk hB W A Bv hBv wa wn wc)
    clear c0 x0 x1 HPK
    go_wp2_with fail
    refine (unhide HC).mono ?_
    rintro e w5 ⟨rfl, ho⟩
    go_wp2
    go_ret
    exact ⟨rfl, SOut.below hbW (ho.step hi hN)⟩

set_option maxRecDepth 100000 in
set_option maxHeartbeats 1000000 in
theorem step_Double {w : World} {G : LLay} {S : LSt} {N B : Nat} (h : LRep w G S) (hi : LInv S N B) (hN : N + 4 ≤ 8000000) (hB : B ≤ 8000000) (W A Bv : Int) (hW : -9223372036854775808 ≤ W ∧ W ≤ 9223372036854775807) (hBv : Bv < 9223372036854775808) (wa : Option Addr) (wn wc : Nat) :
    Calls Tryz.prog 35 #[.pointer (some ⟨G.lb, 0, none⟩), .agg #[.int .i64 10, .int .i64 W, .int .i64 A, .int .i64 Bv, .slice wa wn wc]] w fun e w' => e = .returned (.bool true) ∧ SOut G w S N B w' := by
  have hbA := below_alloc w (Obj.cells #[.int .i64 10, .int .i64 W, .int .i64 A, .int .i64 Bv, .slice wa wn wc] 72)
  have hRA := h.below hbA
  have hn0 := h.n0
  have hlw := hi.sync.lw
  have hne := hi.ne
  have c0 := hRA.c 0 (by omega)
  rw [hn0] at c0
  obtain ⟨g0, e0, hg0c, _, hcell⟩ := (hRA.o 0 (by omega)).at (by rw [hn0]; exact hne)
  rw [e0] at c0
  rw [hn0] at hg0c
  have hr := lpick_range W S.ss.length (by omega)
  have HPK := hide (fun Wd => lawPick_any W S.ss.length Wd (by omega) (by omega) hW.1 hW.2)
  obtain ⟨q, hq⟩ : ∃ q : Nat, lpick W S.ss.length = q := ⟨(lpick W S.ss.length).toNat, by omega⟩
  have hql : q < S.ss.length := by omega
  rw [hq] at HPK
  obtain ⟨x0, x1⟩ := pairCells_get G.X G.Y S.ss.length q hql
  have x0 := hcell _ _ x0
  have x1 := hcell _ _ x1
  have hlen : S.ss.length ≤ 8000000 := by omega
  have o0 : (w.alloc (Obj.cells #[.int .i64 10, .int .i64 W, .int .i64 A, .int .i64 Bv, .slice wa wn wc] 72)).cell? ⟨w.heap.size, 0, none⟩ = some (.int .i64 10) := by simp [go_sem]
  have o1 : (w.alloc (Obj.cells #[.int .i64 10, .int .i64 W, .int .i64 A, .int .i64 Bv, .slice wa wn wc] 72)).cell? ⟨w.heap.size, 1, none⟩ = some (.int .i64 W) := by simp [go_sem]
  have o2 : (w.alloc (Obj.cells #[.int .i64 10, .int .i64 W, .int .i64 A, .int .i64 Bv, .slice wa wn wc] 72)).cell? ⟨w.heap.size, 2, none⟩ = some (.int .i64 A) := by simp [go_sem]
  have o3 : (w.alloc (Obj.cells #[.int .i64 10, .int .i64 W, .int .i64 A, .int .i64 Bv, .slice wa wn wc] 72)).cell? ⟨w.heap.size, 3, none⟩ = some (.int .i64 Bv) := by simp [go_sem]
  have o4 : (w.alloc (Obj.cells #[.int .i64 10, .int .i64 W, .int .i64 A, .int .i64 Bv, .slice wa wn wc] 72)).cell? ⟨w.heap.size, 4, none⟩ = some (.slice wa wn wc) := by simp [go_sem]
  obtain ⟨r, hp, hk⟩ : ∃ r, S.ss[q]? = some (r.st, r) ∧ ROk r B := by
    have hpq : S.ss[q]? = some S.ss[q] := List.getElem?_eq_getElem hql
    have := hi.ok q _ hpq
    exact ⟨S.ss[q].2, by rw [hpq, ← this.1], this.2⟩
  clear hcell hr
  go_enter Tryz.func35, Tryz.ntmps35
  go_wp2_with fail
  generalize w.alloc (Obj.cells #[.int .i64 10, .int .i64 W, .int .i64 A, .int .i64 Bv, .slice wa wn wc] 72) = wA at *
  have l0 := World.block_lt_of_cell? wA _ c0
  have lx := World.block_lt_of_cell? wA _ x0
  have lo := World.block_lt_of_cell? wA _ o1
  have hqi : (q : Int) < (S.ss.length : Int) := by omega
  go_region_held3 (fun w' => w'.cell? ⟨G.lb, 0, none⟩ = some (.slice (some ⟨g0, 0, none⟩) S.ss.length (G.sv 0).cap) ∧ w'.cell? ⟨w.heap.size, 1, none⟩ = some (.int .i64 W) ∧ w'.cell? ⟨g0, q * 2, none⟩ = some (.pointer (some ⟨(G.X q).wb, 0, none⟩)) ∧ w'.cell? ⟨g0, q * 2 + 1, none⟩ = some (.pointer (some ⟨(G.Y q).yb, 0, none⟩))) (go_keep)
    (first
      | (go_at_call 67; refine (unhide HPK _).mono ?_; rintro e wz ⟨rfl, rfl⟩))
  all_goals
    have hbP := (below_alloc wA (Obj.cells #[.pointer (some ⟨(G.X q).wb, 0, none⟩), .pointer (some ⟨(G.Y q).yb, 0, none⟩)] 105)).drew
    have y0 : (wA.alloc (Obj.cells #[.pointer (some ⟨(G.X q).wb, 0, none⟩), .pointer (some ⟨(G.Y q).yb, 0, none⟩)] 105)).drew.cell? ⟨wA.heap.size, 0, none⟩ = some (.pointer (some ⟨(G.X q).wb, 0, none⟩)) := by simp [go_sem]
    have y1 : (wA.alloc (Obj.cells #[.pointer (some ⟨(G.X q).wb, 0, none⟩), .pointer (some ⟨(G.Y q).yb, 0, none⟩)] 105)).drew.cell? ⟨wA.heap.size, 1, none⟩ = some (.pointer (some ⟨(G.Y q).yb, 0, none⟩)) := by simp [go_sem]
    have o0 := (hbP.cell (p := ⟨w.heap.size, 0, none⟩) lo).trans o0
    have o1 := (hbP.cell (p := ⟨w.heap.size, 1, none⟩) lo).trans o1
    have o2 := (hbP.cell (p := ⟨w.heap.size, 2, none⟩) lo).trans o2
    have o3 := (hbP.cell (p := ⟨w.heap.size, 3, none⟩) lo).trans o3
    have o4 := (hbP.cell (p := ⟨w.heap.size, 4, none⟩) lo).trans o4
    have hRP := hRA.below hbP
    have hbW := hbA.more hbP
    generalize (wA.alloc (Obj.cells #[.pointer (some ⟨(G.X q).wb, 0, none⟩), .pointer (some ⟨(G.Y q).yb, 0, none⟩)] 105)).drew = wP at *
    have HC := hide (moves_Double hRP hp hk hB W A Bv hBv wa wn wc)
    clear c0 x0 x1 HPK
    go_wp2_with fail
    refine (unhide HC).mono ?_
    rintro e w5 ⟨rfl, ho⟩
    go_wp2
    go_ret
    exact ⟨rfl, SOut.below hbW (ho.step hi hN)⟩

set_option maxRecDepth 100000 in
set_option maxHeartbeats 1000000 in
theorem step_Tick {w : World} {G : LLay} {S : LSt} {N B : Nat} (h : LRep w G S) (hi : LInv S N B) (hN : N + 4 ≤ 8000000) (hB : B ≤ 8000000) (W A Bv : Int) (hW : -9223372036854775808 ≤ W ∧ W ≤ 9223372036854775807) (hBv : Bv < 9223372036854775808) (wa : Option Addr) (wn wc : Nat) :
    Calls Tryz.prog 35 #[.pointer (some ⟨G.lb, 0, none⟩), .agg #[.int .i64 11, .int .i64 W, .int .i64 A, .int .i64 Bv, .slice wa wn wc]] w fun e w' => e = .returned (.bool true) ∧ SOut G w S N B w' := by
  have hbA := below_alloc w (Obj.cells #[.int .i64 11, .int .i64 W, .int .i64 A, .int .i64 Bv, .slice wa wn wc] 72)
  have hRA := h.below hbA
  have hn0 := h.n0
  have hlw := hi.sync.lw
  have hne := hi.ne
  have c0 := hRA.c 0 (by omega)
  rw [hn0] at c0
  obtain ⟨g0, e0, hg0c, _, hcell⟩ := (hRA.o 0 (by omega)).at (by rw [hn0]; exact hne)
  rw [e0] at c0
  rw [hn0] at hg0c
  have hr := lpick_range W S.ss.length (by omega)
  have HPK := hide (fun Wd => lawPick_any W S.ss.length Wd (by omega) (by omega) hW.1 hW.2)
  obtain ⟨q, hq⟩ : ∃ q : Nat, lpick W S.ss.length = q := ⟨(lpick W S.ss.length).toNat, by omega⟩
  have hql : q < S.ss.length := by omega
  rw [hq] at HPK
  obtain ⟨x0, x1⟩ := pairCells_get G.X G.Y S.ss.length q hql
  have x0 := hcell _ _ x0
  have x1 := hcell _ _ x1
  have hlen : S.ss.length ≤ 8000000 := by omega
  have o0 : (w.alloc (Obj.cells #[.int .i64 11, .int .i64 W, .int .i64 A, .int .i64 Bv, .slice wa wn wc] 72)).cell? ⟨w.heap.size, 0, none⟩ = some (.int .i64 11) := by simp [go_sem]
  have o1 : (w.alloc (Obj.cells #[.int .i64 11, .int .i64 W, .int .i64 A, .int .i64 Bv, .slice wa wn wc] 72)).cell? ⟨w.heap.size, 1, none⟩ = some (.int .i64 W) := by simp [go_sem]
  have o2 : (w.alloc (Obj.cells #[.int .i64 11, .int .i64 W, .int .i64 A, .int .i64 Bv, .slice wa wn wc] 72)).cell? ⟨w.heap.size, 2, none⟩ = some (.int .i64 A) := by simp [go_sem]
  have o3 : (w.alloc (Obj.cells #[.int .i64 11, .int .i64 W, .int .i64 A, .int .i64 Bv, .slice wa wn wc] 72)).cell? ⟨w.heap.size, 3, none⟩ = some (.int .i64 Bv) := by simp [go_sem]
  have o4 : (w.alloc (Obj.cells #[.int .i64 11, .int .i64 W, .int .i64 A, .int .i64 Bv, .slice wa wn wc] 72)).cell? ⟨w.heap.size, 4, none⟩ = some (.slice wa wn wc) := by simp [go_sem]
  obtain ⟨r, hp, hk⟩ : ∃ r, S.ss[q]? = some (r.st, r) ∧ ROk r B := by
    have hpq : S.ss[q]? = some S.ss[q] := List.getElem?_eq_getElem hql
    have := hi.ok q _ hpq
    exact ⟨S.ss[q].2, by rw [hpq, ← this.1], this.2⟩
  clear hcell hr
  go_enter Tryz.func35, Tryz.ntmps35
  go_wp2_with fail
  generalize w.alloc (Obj.cells #[.int .i64 11, .int .i64 W, .int .i64 A, .int .i64 Bv, .slice wa wn wc] 72) = wA at *
  have l0 := World.block_lt_of_cell? wA _ c0
  have lx := World.block_lt_of_cell? wA _ x0
  have lo := World.block_lt_of_cell? wA _ o1
  have hqi : (q : Int) < (S.ss.length : Int) := by omega
  go_region_held3 (fun w' => w'.cell? ⟨G.lb, 0, none⟩ = some (.slice (some ⟨g0, 0, none⟩) S.ss.length (G.sv 0).cap) ∧ w'.cell? ⟨w.heap.size, 1, none⟩ = some (.int .i64 W) ∧ w'.cell? ⟨g0, q * 2, none⟩ = some (.pointer (some ⟨(G.X q).wb, 0, none⟩)) ∧ w'.cell? ⟨g0, q * 2 + 1, none⟩ = some (.pointer (some ⟨(G.Y q).yb, 0, none⟩))) (go_keep)
    (first
      | (go_at_call 67; refine (unhide HPK _).mono ?_; rintro e wz ⟨rfl, rfl⟩))
  all_goals
    have hbP := (below_alloc wA (Obj.cells #[.pointer (some ⟨(G.X q).wb, 0, none⟩), .pointer (some ⟨(G.Y q).yb, 0, none⟩)] 105)).drew
    have y0 : (wA.alloc (Obj.cells #[.pointer (some ⟨(G.X q).wb, 0, none⟩), .pointer (some ⟨(G.Y q).yb, 0, none⟩)] 105)).drew.cell? ⟨wA.heap.size, 0, none⟩ = some (.pointer (some ⟨(G.X q).wb, 0, none⟩)) := by simp [go_sem]
    have y1 : (wA.alloc (Obj.cells #[.pointer (some ⟨(G.X q).wb, 0, none⟩), .pointer (some ⟨(G.Y q).yb, 0, none⟩)] 105)).drew.cell? ⟨wA.heap.size, 1, none⟩ = some (.pointer (some ⟨(G.Y q).yb, 0, none⟩)) := by simp [go_sem]
    have o0 := (hbP.cell (p := ⟨w.heap.size, 0, none⟩) lo).trans o0
    have o1 := (hbP.cell (p := ⟨w.heap.size, 1, none⟩) lo).trans o1
    have o2 := (hbP.cell (p := ⟨w.heap.size, 2, none⟩) lo).trans o2
    have o3 := (hbP.cell (p := ⟨w.heap.size, 3, none⟩) lo).trans o3
    have o4 := (hbP.cell (p := ⟨w.heap.size, 4, none⟩) lo).trans o4
    have hRP := hRA.below hbP
    have hbW := hbA.more hbP
    generalize (wA.alloc (Obj.cells #[.pointer (some ⟨(G.X q).wb, 0, none⟩), .pointer (some ⟨(G.Y q).yb, 0, none⟩)] 105)).drew = wP at *
    have HC := hide (moves_Tick hRP hp hk hB W A Bv hBv wa wn wc)
    clear c0 x0 x1 HPK
    go_wp2_with fail
    refine (unhide HC).mono ?_
    rintro e w5 ⟨rfl, ho⟩
    go_wp2
    go_ret
    exact ⟨rfl, SOut.below hbW (ho.step hi hN)⟩

set_option maxRecDepth 100000 in
set_option maxHeartbeats 1000000 in
theorem step_Crash {w : World} {G : LLay} {S : LSt} {N B : Nat} (h : LRep w G S) (hi : LInv S N B) (hN : N + 4 ≤ 8000000) (hB : B ≤ 8000000) (W A Bv : Int) (hW : -9223372036854775808 ≤ W ∧ W ≤ 9223372036854775807) (hBv : Bv < 9223372036854775808) (wa : Option Addr) (wn wc : Nat) :
    Calls Tryz.prog 35 #[.pointer (some ⟨G.lb, 0, none⟩), .agg #[.int .i64 12, .int .i64 W, .int .i64 A, .int .i64 Bv, .slice wa wn wc]] w fun e w' => e = .returned (.bool true) ∧ SOut G w S N B w' := by
  have hbA := below_alloc w (Obj.cells #[.int .i64 12, .int .i64 W, .int .i64 A, .int .i64 Bv, .slice wa wn wc] 72)
  have hRA := h.below hbA
  have hn0 := h.n0
  have hlw := hi.sync.lw
  have hne := hi.ne
  have c0 := hRA.c 0 (by omega)
  rw [hn0] at c0
  obtain ⟨g0, e0, hg0c, _, hcell⟩ := (hRA.o 0 (by omega)).at (by rw [hn0]; exact hne)
  rw [e0] at c0
  rw [hn0] at hg0c
  have hr := lpick_range W S.ss.length (by omega)
  have HPK := hide (fun Wd => lawPick_any W S.ss.length Wd (by omega) (by omega) hW.1 hW.2)
  obtain ⟨q, hq⟩ : ∃ q : Nat, lpick W S.ss.length = q := ⟨(lpick W S.ss.length).toNat, by omega⟩
  have hql : q < S.ss.length := by omega
  rw [hq] at HPK
  obtain ⟨x0, x1⟩ := pairCells_get G.X G.Y S.ss.length q hql
  have x0 := hcell _ _ x0
  have x1 := hcell _ _ x1
  have hlen : S.ss.length ≤ 8000000 := by omega
  have o0 : (w.alloc (Obj.cells #[.int .i64 12, .int .i64 W, .int .i64 A, .int .i64 Bv, .slice wa wn wc] 72)).cell? ⟨w.heap.size, 0, none⟩ = some (.int .i64 12) := by simp [go_sem]
  have o1 : (w.alloc (Obj.cells #[.int .i64 12, .int .i64 W, .int .i64 A, .int .i64 Bv, .slice wa wn wc] 72)).cell? ⟨w.heap.size, 1, none⟩ = some (.int .i64 W) := by simp [go_sem]
  have o2 : (w.alloc (Obj.cells #[.int .i64 12, .int .i64 W, .int .i64 A, .int .i64 Bv, .slice wa wn wc] 72)).cell? ⟨w.heap.size, 2, none⟩ = some (.int .i64 A) := by simp [go_sem]
  have o3 : (w.alloc (Obj.cells #[.int .i64 12, .int .i64 W, .int .i64 A, .int .i64 Bv, .slice wa wn wc] 72)).cell? ⟨w.heap.size, 3, none⟩ = some (.int .i64 Bv) := by simp [go_sem]
  have o4 : (w.alloc (Obj.cells #[.int .i64 12, .int .i64 W, .int .i64 A, .int .i64 Bv, .slice wa wn wc] 72)).cell? ⟨w.heap.size, 4, none⟩ = some (.slice wa wn wc) := by simp [go_sem]
  obtain ⟨r, hp, hk⟩ : ∃ r, S.ss[q]? = some (r.st, r) ∧ ROk r B := by
    have hpq : S.ss[q]? = some S.ss[q] := List.getElem?_eq_getElem hql
    have := hi.ok q _ hpq
    exact ⟨S.ss[q].2, by rw [hpq, ← this.1], this.2⟩
  clear hcell hr
  go_enter Tryz.func35, Tryz.ntmps35
  go_wp2_with fail
  generalize w.alloc (Obj.cells #[.int .i64 12, .int .i64 W, .int .i64 A, .int .i64 Bv, .slice wa wn wc] 72) = wA at *
  have l0 := World.block_lt_of_cell? wA _ c0
  have lx := World.block_lt_of_cell? wA _ x0
  have lo := World.block_lt_of_cell? wA _ o1
  have hqi : (q : Int) < (S.ss.length : Int) := by omega
  go_region_held3 (fun w' => w'.cell? ⟨G.lb, 0, none⟩ = some (.slice (some ⟨g0, 0, none⟩) S.ss.length (G.sv 0).cap) ∧ w'.cell? ⟨w.heap.size, 1, none⟩ = some (.int .i64 W) ∧ w'.cell? ⟨g0, q * 2, none⟩ = some (.pointer (some ⟨(G.X q).wb, 0, none⟩)) ∧ w'.cell? ⟨g0, q * 2 + 1, none⟩ = some (.pointer (some ⟨(G.Y q).yb, 0, none⟩))) (go_keep)
    (first
      | (go_at_call 67; refine (unhide HPK _).mono ?_; rintro e wz ⟨rfl, rfl⟩))
  all_goals
    have hbP := (below_alloc wA (Obj.cells #[.pointer (some ⟨(G.X q).wb, 0, none⟩), .pointer (some ⟨(G.Y q).yb, 0, none⟩)] 105)).drew
    have y0 : (wA.alloc (Obj.cells #[.pointer (some ⟨(G.X q).wb, 0, none⟩), .pointer (some ⟨(G.Y q).yb, 0, none⟩)] 105)).drew.cell? ⟨wA.heap.size, 0, none⟩ = some (.pointer (some ⟨(G.X q).wb, 0, none⟩)) := by simp [go_sem]
    have y1 : (wA.alloc (Obj.cells #[.pointer (some ⟨(G.X q).wb, 0, none⟩), .pointer (some ⟨(G.Y q).yb, 0, none⟩)] 105)).drew.cell? ⟨wA.heap.size, 1, none⟩ = some (.pointer (some ⟨(G.Y q).yb, 0, none⟩)) := by simp [go_sem]
    have o0 := (hbP.cell (p := ⟨w.heap.size, 0, none⟩) lo).trans o0
    have o1 := (hbP.cell (p := ⟨w.heap.size, 1, none⟩) lo).trans o1
    have o2 := (hbP.cell (p := ⟨w.heap.size, 2, none⟩) lo).trans o2
    have o3 := (hbP.cell (p := ⟨w.heap.size, 3, none⟩) lo).trans o3
    have o4 := (hbP.cell (p := ⟨w.heap.size, 4, none⟩) lo).trans o4
    have hRP := hRA.below hbP
    have hbW := hbA.more hbP
    generalize (wA.alloc (Obj.cells #[.pointer (some ⟨(G.X q).wb, 0, none⟩), .pointer (some ⟨(G.Y q).yb, 0, none⟩)] 105)).drew = wP at *
    have HC := hide (moves_Crash hRP hp hk hB W A Bv hBv wa wn wc)
    clear c0 x0 x1 HPK
    go_wp2_with fail
    refine (unhide HC).mono ?_
    rintro e w5 ⟨rfl, ho⟩
    go_wp2
    go_ret
    exact ⟨rfl, SOut.below hbW (ho.step hi hN)⟩

set_option maxRecDepth 100000 in
set_option maxHeartbeats 1000000 in
theorem step_Fuse {w : World} {G : LLay} {S : LSt} {N B : Nat} (h : LRep w G S) (hi : LInv S N B) (hN : N + 4 ≤ 8000000) (hB : B ≤ 8000000) (W A Bv : Int) (hW : -9223372036854775808 ≤ W ∧ W ≤ 9223372036854775807) (hBv : Bv < 9223372036854775808) (wa : Option Addr) (wn wc : Nat) :
    Calls Tryz.prog 35 #[.pointer (some ⟨G.lb, 0, none⟩), .agg #[.int .i64 13, .int .i64 W, .int .i64 A, .int .i64 Bv, .slice wa wn wc]] w fun e w' => e = .returned (.bool true) ∧ SOut G w S N B w' := by
  have hbA := below_alloc w (Obj.cells #[.int .i64 13, .int .i64 W, .int .i64 A, .int .i64 Bv, .slice wa wn wc] 72)
  have hRA := h.below hbA
  have hn0 := h.n0
  have hlw := hi.sync.lw
  have hne := hi.ne
  have c0 := hRA.c 0 (by omega)
  rw [hn0] at c0
  obtain ⟨g0, e0, hg0c, _, hcell⟩ := (hRA.o 0 (by omega)).at (by rw [hn0]; exact hne)
  rw [e0] at c0
  rw [hn0] at hg0c
  have hr := lpick_range W S.ss.length (by omega)
  have HPK := hide (fun Wd => lawPick_any W S.ss.length Wd (by omega) (by omega) hW.1 hW.2)
  obtain ⟨q, hq⟩ : ∃ q : Nat, lpick W S.ss.length = q := ⟨(lpick W S.ss.length).toNat, by omega⟩
  have hql : q < S.ss.length := by omega
  rw [hq] at HPK
  obtain ⟨x0, x1⟩ := pairCells_get G.X G.Y S.ss.length q hql
  have x0 := hcell _ _ x0
  have x1 := hcell _ _ x1
  have hlen : S.ss.length ≤ 8000000 := by omega
  have o0 : (w.alloc (Obj.cells #[.int .i64 13, .int .i64 W, .int .i64 A, .int .i64 Bv, .slice wa wn wc] 72)).cell? ⟨w.heap.size, 0, none⟩ = some (.int .i64 13) := by simp [go_sem]
  have o1 : (w.alloc (Obj.cells #[.int .i64 13, .int .i64 W, .int .i64 A, .int .i64 Bv, .slice wa wn wc] 72)).cell? ⟨w.heap.size, 1, none⟩ = some (.int .i64 W) := by simp [go_sem]
  have o2 : (w.alloc (Obj.cells #[.int .i64 13, .int .i64 W, .int .i64 A, .int .i64 Bv, .slice wa wn wc] 72)).cell? ⟨w.heap.size, 2, none⟩ = some (.int .i64 A) := by simp [go_sem]
  have o3 : (w.alloc (Obj.cells #[.int .i64 13, .int .i64 W, .int .i64 A, .int .i64 Bv, .slice wa wn wc] 72)).cell? ⟨w.heap.size, 3, none⟩ = some (.int .i64 Bv) := by simp [go_sem]
  have o4 : (w.alloc (Obj.cells #[.int .i64 13, .int .i64 W, .int .i64 A, .int .i64 Bv, .slice wa wn wc] 72)).cell? ⟨w.heap.size, 4, none⟩ = some (.slice wa wn wc) := by simp [go_sem]
  obtain ⟨r, hp, hk⟩ : ∃ r, S.ss[q]? = some (r.st, r) ∧ ROk r B := by
    have hpq : S.ss[q]? = some S.ss[q] := List.getElem?_eq_getElem hql
    have := hi.ok q _ hpq
    exact ⟨S.ss[q].2, by rw [hpq, ← this.1], this.2⟩
  clear hcell hr
  go_enter Tryz.func35, Tryz.ntmps35
  go_wp2_with fail
  generalize w.alloc (Obj.cells #[.int .i64 13, .int .i64 W, .int .i64 A, .int .i64 Bv, .slice wa wn wc] 72) = wA at *
  have l0 := World.block_lt_of_cell? wA _ c0
  have lx := World.block_lt_of_cell? wA _ x0
  have lo := World.block_lt_of_cell? wA _ o1
  have hqi : (q : Int) < (S.ss.length : Int) := by omega
  go_region_held3 (fun w' => w'.cell? ⟨G.lb, 0, none⟩ = some (.slice (some ⟨g0, 0, none⟩) S.ss.length (G.sv 0).cap) ∧ w'.cell? ⟨w.heap.size, 1, none⟩ = some (.int .i64 W) ∧ w'.cell? ⟨g0, q * 2, none⟩ = some (.pointer (some ⟨(G.X q).wb, 0, none⟩)) ∧ w'.cell? ⟨g0, q * 2 + 1, none⟩ = some (.pointer (some ⟨(G.Y q).yb, 0, none⟩))) (go_keep)
    (first
      | (go_at_call 67; refine (unhide HPK _).mono ?_; rintro e wz ⟨rfl, rfl⟩))
  all_goals
    have hbP := (below_alloc wA (Obj.cells #[.pointer (some ⟨(G.X q).wb, 0, none⟩), .pointer (some ⟨(G.Y q).yb, 0, none⟩)] 105)).drew
    have y0 : (wA.alloc (Obj.cells #[.pointer (some ⟨(G.X q).wb, 0, none⟩), .pointer (some ⟨(G.Y q).yb, 0, none⟩)] 105)).drew.cell? ⟨wA.heap.size, 0, none⟩ = some (.pointer (some ⟨(G.X q).wb, 0, none⟩)) := by simp [go_sem]
    have y1 : (wA.alloc (Obj.cells #[.pointer (some ⟨(G.X q).wb, 0, none⟩), .pointer (some ⟨(G.Y q).yb, 0, none⟩)] 105)).drew.cell? ⟨wA.heap.size, 1, none⟩ = some (.pointer (some ⟨(G.Y q).yb, 0, none⟩)) := by simp [go_sem]
    have o0 := (hbP.cell (p := ⟨w.heap.size, 0, none⟩) lo).trans o0
    have o1 := (hbP.cell (p := ⟨w.heap.size, 1, none⟩) lo).trans o1
    have o2 := (hbP.cell (p := ⟨w.heap.size, 2, none⟩) lo).trans o2
    have o3 := (hbP.cell (p := ⟨w.heap.size, 3, none⟩) lo).trans o3
    have o4 := (hbP.cell (p := ⟨w.heap.size, 4, none⟩) lo).trans o4
    have hRP := hRA.below hbP
    have hbW := hbA.more hbP
    generalize (wA.alloc (Obj.cells #[.pointer (some ⟨(G.X q).wb, 0, none⟩), .pointer (some ⟨(G.Y q).yb, 0, none⟩)] 105)).drew = wP at *
    have HC := hide (moves_Fuse hRP hp hk hB W A Bv hBv wa wn wc)
    clear c0 x0 x1 HPK
    go_wp2_with fail
    refine (unhide HC).mono ?_
    rintro e w5 ⟨rfl, ho⟩
    go_wp2
    go_ret
    exact ⟨rfl, SOut.below hbW (ho.step hi hN)⟩

set_option maxRecDepth 100000 in
set_option maxHeartbeats 1000000 in
theorem step_Recover {w : World} {G : LLay} {S : LSt} {N B : Nat} (h : LRep w G S) (hi : LInv S N B) (hN : N + 4 ≤ 8000000) (hB : B ≤ 8000000) (W A Bv : Int) (hW : -9223372036854775808 ≤ W ∧ W ≤ 9223372036854775807) (hBv : Bv < 9223372036854775808) (wa : Option Addr) (wn wc : Nat) :
    Calls Tryz.prog 35 #[.pointer (some ⟨G.lb, 0, none⟩), .agg #[.int .i64 14, .int .i64 W, .int .i64 A, .int .i64 Bv, .slice wa wn wc]] w fun e w' => e = .returned (.bool true) ∧ SOut G w S N B w' := by
  have hbA := below_alloc w (Obj.cells #[.int .i64 14, .int .i64 W, .int .i64 A, .int .i64 Bv, .slice wa wn wc] 72)
  have hRA := h.below hbA
  have hn0 := h.n0
  have hlw := hi.sync.lw
  have hne := hi.ne
  have c0 := hRA.c 0 (by omega)
  rw [hn0] at c0
  obtain ⟨g0, e0, hg0c, _, hcell⟩ := (hRA.o 0 (by omega)).at (by rw [hn0]; exact hne)
  rw [e0] at c0
  rw [hn0] at hg0c
  have hr := lpick_range W S.ss.length (by omega)
  have HPK := hide (fun Wd => lawPick_any W S.ss.length Wd (by omega) (by omega) hW.1 hW.2)
  obtain ⟨q, hq⟩ : ∃ q : Nat, lpick W S.ss.length = q := ⟨(lpick W S.ss.length).toNat, by omega⟩
  have hql : q < S.ss.length := by omega
  rw [hq] at HPK
  obtain ⟨x0, x1⟩ := pairCells_get G.X G.Y S.ss.length q hql
  have x0 := hcell _ _ x0
  have x1 := hcell _ _ x1
  have hlen : S.ss.length ≤ 8000000 := by omega
  have o0 : (w.alloc (Obj.cells #[.int .i64 14, .int .i64 W, .int .i64 A, .int .i64 Bv, .slice wa wn wc] 72)).cell? ⟨w.heap.size, 0, none⟩ = some (.int .i64 14) := by simp [go_sem]
  have o1 : (w.alloc (Obj.cells #[.int .i64 14, .int .i64 W, .int .i64 A, .int .i64 Bv, .slice wa wn wc] 72)).cell? ⟨w.heap.size, 1, none⟩ = some (.int .i64 W) := by simp [go_sem]
  have o2 : (w.alloc (Obj.cells #[.int .i64 14, .int .i64 W, .int .i64 A, .int .i64 Bv, .slice wa wn wc] 72)).cell? ⟨w.heap.size, 2, none⟩ = some (.int .i64 A) := by simp [go_sem]
  have o3 : (w.alloc (Obj.cells #[.int .i64 14, .int .i64 W, .int .i64 A, .int .i64 Bv, .slice wa wn wc] 72)).cell? ⟨w.heap.size, 3, none⟩ = some (.int .i64 Bv) := by simp [go_sem]
  have o4 : (w.alloc (Obj.cells #[.int .i64 14, .int .i64 W, .int .i64 A, .int .i64 Bv, .slice wa wn wc] 72)).cell? ⟨w.heap.size, 4, none⟩ = some (.slice wa wn wc) := by simp [go_sem]
  obtain ⟨r, hp, hk⟩ : ∃ r, S.ss[q]? = some (r.st, r) ∧ ROk r B := by
    have hpq : S.ss[q]? = some S.ss[q] := List.getElem?_eq_getElem hql
    have := hi.ok q _ hpq
    exact ⟨S.ss[q].2, by rw [hpq, ← this.1], this.2⟩
  clear hcell hr
  go_enter Tryz.func35, Tryz.ntmps35
  go_wp2_with fail
  generalize w.alloc (Obj.cells #[.int .i64 14, .int .i64 W, .int .i64 A, .int .i64 Bv, .slice wa wn wc] 72) = wA at *
  have l0 := World.block_lt_of_cell? wA _ c0
  have lx := World.block_lt_of_cell? wA _ x0
  have lo := World.block_lt_of_cell? wA _ o1
  have hqi : (q : Int) < (S.ss.length : Int) := by omega
  go_region_held3 (fun w' => w'.cell? ⟨G.lb, 0, none⟩ = some (.slice (some ⟨g0, 0, none⟩) S.ss.length (G.sv 0).cap) ∧ w'.cell? ⟨w.heap.size, 1, none⟩ = some (.int .i64 W) ∧ w'.cell? ⟨g0, q * 2, none⟩ = some (.pointer (some ⟨(G.X q).wb, 0, none⟩)) ∧ w'.cell? ⟨g0, q * 2 + 1, none⟩ = some (.pointer (some ⟨(G.Y q).yb, 0, none⟩))) (go_keep)
    (first
      | (go_at_call 67; refine (unhide HPK _).mono ?_; rintro e wz ⟨rfl, rfl⟩))
  all_goals
    have hbP := (below_alloc wA (Obj.cells #[.pointer (some ⟨(G.X q).wb, 0, none⟩), .pointer (some ⟨(G.Y q).yb, 0, none⟩)] 105)).drew
    have y0 : (wA.alloc (Obj.cells #[.pointer (some ⟨(G.X q).wb, 0, none⟩), .pointer (some ⟨(G.Y q).yb, 0, none⟩)] 105)).drew.cell? ⟨wA.heap.size, 0, none⟩ = some (.pointer (some ⟨(G.X q).wb, 0, none⟩)) := by simp [go_sem]
    have y1 : (wA.alloc (Obj.cells #[.pointer (some ⟨(G.X q).wb, 0, none⟩), .pointer (some ⟨(G.Y q).yb, 0, none⟩)] 105)).drew.cell? ⟨wA.heap.size, 1, none⟩ = some (.pointer (some ⟨(G.Y q).yb, 0, none⟩)) := by simp [go_sem]
    have o0 := (hbP.cell (p := ⟨w.heap.size, 0, none⟩) lo).trans o0
    have o1 := (hbP.cell (p := ⟨w.heap.size, 1, none⟩) lo).trans o1
    have o2 := (hbP.cell (p := ⟨w.heap.size, 2, none⟩) lo).trans o2
    have o3 := (hbP.cell (p := ⟨w.heap.size, 3, none⟩) lo).trans o3
    have o4 := (hbP.cell (p := ⟨w.heap.size, 4, none⟩) lo).trans o4
    have hRP := hRA.below hbP
    have hbW := hbA.more hbP
    generalize (wA.alloc (Obj.cells #[.pointer (some ⟨(G.X q).wb, 0, none⟩), .pointer (some ⟨(G.Y q).yb, 0, none⟩)] 105)).drew = wP at *
    have HC := hide (moves_Recover hRP hp hk hB W A Bv hBv wa wn wc)
    clear c0 x0 x1 HPK
    go_wp2_with fail
    refine (unhide HC).mono ?_
    rintro e w5 ⟨rfl, ho⟩
    go_wp2
    go_ret
    exact ⟨rfl, SOut.below hbW (ho.step hi hN)⟩

end Go.Proofs.YtekbjlhbjcikdaaGreat
