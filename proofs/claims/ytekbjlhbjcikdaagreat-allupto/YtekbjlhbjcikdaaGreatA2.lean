/-
  accordlaw: asks and step of kind 16 (Records).
-/
import Derived.Test.YtekbjlhbjcikdaaGreatA1
import Derived.Test.YtekbjlhbjcikdaaGreatML15
import Derived.Deep.RegionHeld3
import Derived.BigQuiet
import Derived.Deep.QuietTactic
namespace Go.Proofs.YtekbjlhbjcikdaaGreat
open Go.RowKit Acc

set_option maxRecDepth 100000 in
set_option maxHeartbeats 1000000 in
theorem asks_Records {w : World} {G : LLay} {S : LSt} {B i : Nat} {r : RSt} (h : LRep w G S) (hp : S.ss[i]? = some (r.st, r)) (hk : ROk r B) (W A Bv : Int) (hA : inR A) (wa : Option Addr) (wn wc : Nat) :
    Calls Tryz.prog 70 #[.pointer (some ⟨G.lb, 0, none⟩), .agg #[.pointer (some ⟨(G.X i).wb, 0, none⟩), .pointer (some ⟨(G.Y i).yb, 0, none⟩)], .agg #[.int .i64 16, .int .i64 W, .int .i64 A, .int .i64 Bv, .slice wa wn wc]] w fun e w' => e = .returned (.bool true) ∧ LLeaves G w S w' := by
  have hbA := (below_alloc w (Obj.cells #[.pointer (some ⟨(G.X i).wb, 0, none⟩), .pointer (some ⟨(G.Y i).yb, 0, none⟩)] 105)).more (below_alloc _ (Obj.cells #[.int .i64 16, .int .i64 W, .int .i64 A, .int .i64 Bv, .slice wa wn wc] 72))
  have hbx := OBox.new w (.pointer (some ⟨(G.X i).wb, 0, none⟩)) (.pointer (some ⟨(G.Y i).yb, 0, none⟩)) 16 W A Bv ⟨wa, wn, wc⟩
  have hRA := h.below hbA
  have hr := lpick_range A 40 (by omega)
  have HPK := hide (fun Wd => lawPick_any A 40 Wd (by omega) (by omega) hA.1 hA.2)
  obtain ⟨m, hm⟩ : ∃ m : Nat, lpick A 40 = m := ⟨(lpick A 40).toNat, by omega⟩
  have hm40 : m < 40 := by omega
  rw [hm] at HPK
  go_enter Tryz.func70, Tryz.ntmps70
  go_wp2_with fail
  generalize (w.alloc (Obj.cells #[.pointer (some ⟨(G.X i).wb, 0, none⟩), .pointer (some ⟨(G.Y i).yb, 0, none⟩)] 105)).alloc (Obj.cells #[.int .i64 16, .int .i64 W, .int .i64 A, .int .i64 Bv, .slice wa wn wc] 72) = wA at *
  have p0 := hbx.p0
  have p1 := hbx.p1
  have o2 := hbx.o2
  simp only at p0 p1
  have l0 := World.block_lt_of_cell? wA _ p0
  have l1 := World.block_lt_of_cell? wA _ o2
  have HG := hide (fun W' (hb : Below wA.heap.size wA W') => goes_any ((hRA.xs i _ hp).below hb) hk.ok ((hRA.ys i _ hp).below hb) m hm40)
  have HL := hide (fun W' (hb : Below wA.heap.size wA W') => show LLeaves G w S W' from ⟨G, rfl, hRA.below hb, (Ext.of_below hbA).trans (Ext.of_below hb)⟩)
  clear hRA hbx hr
  go_region_held3 (fun w' => w'.cell? ⟨w.heap.size, 0, none⟩ = some (.pointer (some ⟨(G.X i).wb, 0, none⟩)) ∧ w'.cell? ⟨w.heap.size, 1, none⟩ = some (.pointer (some ⟨(G.Y i).yb, 0, none⟩)) ∧ w'.cell? ⟨w.heap.size + 1, 2, none⟩ = some (.int .i64 A)) (go_keep)
    (first
      | (go_at_call 67; refine (unhide HPK _).mono ?_; rintro e wz ⟨rfl, rfl⟩)
      | (go_at_call 115; refine (unhide HG _ (Below.refl _ _).drew).mono ?_; rintro e w4 ⟨rfl, hb4⟩; have hbw := (Below.refl wA.heap.size wA).drew.more hb4; have q0 := (hbw.cell (p := ⟨w.heap.size, 0, none⟩) l0).trans p0; have q1 := (hbw.cell (p := ⟨w.heap.size, 1, none⟩) l0).trans p1; have q2 := (hbw.cell (p := ⟨w.heap.size + 1, 2, none⟩) l1).trans o2))
  go_wp2
  go_ret
  exact ⟨rfl, unhide HL _ ((Below.refl wA.heap.size wA).drew.more hb4)⟩

set_option maxRecDepth 100000 in
set_option maxHeartbeats 1000000 in
theorem step_Records {w : World} {G : LLay} {S : LSt} {N B : Nat} (h : LRep w G S) (hi : LInv S N B) (hN : N + 4 ≤ 8000000) (_hB : B ≤ 8000000) (W A Bv : Int) (hW : -9223372036854775808 ≤ W ∧ W ≤ 9223372036854775807) (_hBv : Bv < 9223372036854775808) (hA : inR A) (wa : Option Addr) (wn wc : Nat) :
    Calls Tryz.prog 35 #[.pointer (some ⟨G.lb, 0, none⟩), .agg #[.int .i64 16, .int .i64 W, .int .i64 A, .int .i64 Bv, .slice wa wn wc]] w fun e w' => e = .returned (.bool true) ∧ SOut G w S N B w' := by
  have hbA := below_alloc w (Obj.cells #[.int .i64 16, .int .i64 W, .int .i64 A, .int .i64 Bv, .slice wa wn wc] 72)
  have hRA := h.below hbA
  have hn0 := h.n0
  have hlw := hi.sync.lw
  have hne := hi.ne
  have c0 := hRA.c 0 (by omega)
  rw [hn0] at c0
  obtain ⟨g0, e0, hg0c, _, hcell⟩ := (hRA.o 0 (by omega)).at (by rw [hn0]; exact hne)
  rw [e0] at c0
  rw [hn0] at hg0c
  have hr := lpick_range W S.ss.length (by omega)
  have HPK := hide (fun Wd => lawPick_any W S.ss.length Wd (by omega) (by omega) hW.1 hW.2)
  obtain ⟨q, hq⟩ : ∃ q : Nat, lpick W S.ss.length = q := ⟨(lpick W S.ss.length).toNat, by omega⟩
  have hql : q < S.ss.length := by omega
  rw [hq] at HPK
  obtain ⟨x0, x1⟩ := pairCells_get G.X G.Y S.ss.length q hql
  have x0 := hcell _ _ x0
  have x1 := hcell _ _ x1
  have hlen : S.ss.length ≤ 8000000 := by omega
  have o0 : (w.alloc (Obj.cells #[.int .i64 16, .int .i64 W, .int .i64 A, .int .i64 Bv, .slice wa wn wc] 72)).cell? ⟨w.heap.size, 0, none⟩ = some (.int .i64 16) := by simp [go_sem]
  have o1 : (w.alloc (Obj.cells #[.int .i64 16, .int .i64 W, .int .i64 A, .int .i64 Bv, .slice wa wn wc] 72)).cell? ⟨w.heap.size, 1, none⟩ = some (.int .i64 W) := by simp [go_sem]
  have o2 : (w.alloc (Obj.cells #[.int .i64 16, .int .i64 W, .int .i64 A, .int .i64 Bv, .slice wa wn wc] 72)).cell? ⟨w.heap.size, 2, none⟩ = some (.int .i64 A) := by simp [go_sem]
  have o3 : (w.alloc (Obj.cells #[.int .i64 16, .int .i64 W, .int .i64 A, .int .i64 Bv, .slice wa wn wc] 72)).cell? ⟨w.heap.size, 3, none⟩ = some (.int .i64 Bv) := by simp [go_sem]
  have o4 : (w.alloc (Obj.cells #[.int .i64 16, .int .i64 W, .int .i64 A, .int .i64 Bv, .slice wa wn wc] 72)).cell? ⟨w.heap.size, 4, none⟩ = some (.slice wa wn wc) := by simp [go_sem]
  obtain ⟨r, hp, hk⟩ : ∃ r, S.ss[q]? = some (r.st, r) ∧ ROk r B := by
    have hpq : S.ss[q]? = some S.ss[q] := List.getElem?_eq_getElem hql
    have := hi.ok q _ hpq
    exact ⟨S.ss[q].2, by rw [hpq, ← this.1], this.2⟩
  clear hcell hr
  go_enter Tryz.func35, Tryz.ntmps35
  go_wp2_with fail
  generalize w.alloc (Obj.cells #[.int .i64 16, .int .i64 W, .int .i64 A, .int .i64 Bv, .slice wa wn wc] 72) = wA at *
  have l0 := World.block_lt_of_cell? wA _ c0
  have lx := World.block_lt_of_cell? wA _ x0
  have lo := World.block_lt_of_cell? wA _ o1
  have hqi : (q : Int) < (S.ss.length : Int) := by omega
  go_region_held3 (fun w' => w'.cell? ⟨G.lb, 0, none⟩ = some (.slice (some ⟨g0, 0, none⟩) S.ss.length (G.sv 0).cap) ∧ w'.cell? ⟨w.heap.size, 1, none⟩ = some (.int .i64 W) ∧ w'.cell? ⟨g0, q * 2, none⟩ = some (.pointer (some ⟨(G.X q).wb, 0, none⟩)) ∧ w'.cell? ⟨g0, q * 2 + 1, none⟩ = some (.pointer (some ⟨(G.Y q).yb, 0, none⟩))) (go_keep)
    (first
      | (go_at_call 67; refine (unhide HPK _).mono ?_; rintro e wz ⟨rfl, rfl⟩))
  all_goals
    have hbP := (below_alloc wA (Obj.cells #[.pointer (some ⟨(G.X q).wb, 0, none⟩), .pointer (some ⟨(G.Y q).yb, 0, none⟩)] 105)).drew
    have y0 : (wA.alloc (Obj.cells #[.pointer (some ⟨(G.X q).wb, 0, none⟩), .pointer (some ⟨(G.Y q).yb, 0, none⟩)] 105)).drew.cell? ⟨wA.heap.size, 0, none⟩ = some (.pointer (some ⟨(G.X q).wb, 0, none⟩)) := by simp [go_sem]
    have y1 : (wA.alloc (Obj.cells #[.pointer (some ⟨(G.X q).wb, 0, none⟩), .pointer (some ⟨(G.Y q).yb, 0, none⟩)] 105)).drew.cell? ⟨wA.heap.size, 1, none⟩ = some (.pointer (some ⟨(G.Y q).yb, 0, none⟩)) := by simp [go_sem]
    have o0 := (hbP.cell (p := ⟨w.heap.size, 0, none⟩) lo).trans o0
    have o1 := (hbP.cell (p := ⟨w.heap.size, 1, none⟩) lo).trans o1
    have o2 := (hbP.cell (p := ⟨w.heap.size, 2, none⟩) lo).trans o2
    have o3 := (hbP.cell (p := ⟨w.heap.size, 3, none⟩) lo).trans o3
    have o4 := (hbP.cell (p := ⟨w.heap.size, 4, none⟩) lo).trans o4
    have hRP := hRA.below hbP
    have hbW := hbA.more hbP
    generalize (wA.alloc (Obj.cells #[.pointer (some ⟨(G.X q).wb, 0, none⟩), .pointer (some ⟨(G.Y q).yb, 0, none⟩)] 105)).drew = wP at *
    have HC := hide (asks_Records hRP hp hk W A Bv hA wa wn wc)
    clear c0 x0 x1 HPK
    go_wp2_with fail
    refine (unhide HC).mono ?_
    rintro e w5 ⟨rfl, ho⟩
    go_wp2
    go_ret
    exact ⟨rfl, SOut.below hbW (ho.step hi hN)⟩

/-- One step, whatever the kind up to 16. -/
theorem step16_any {w : World} {G : LLay} {S : LSt} {N B : Nat} (h : LRep w G S) (hi : LInv S N B) (hN : N + 4 ≤ 8000000) (hB : B ≤ 8000000) (K W A Bv : Int) (hK : K ≤ 16) (hW : inR W) (hBv : inR Bv) (hA : inR A) (wa : Option Addr) (wn wc : Nat) (hw : WrsAt w wa wn wc) (hf : ∀ x, wa = some x → wn ≠ 0 → G.own x.block = none) :
    Calls Tryz.prog 35 #[.pointer (some ⟨G.lb, 0, none⟩), .agg #[.int .i64 K, .int .i64 W, .int .i64 A, .int .i64 Bv, .slice wa wn wc]] w fun e w' => e = .returned (.bool true) ∧ SOut G w S N B w' := by
  by_cases h16 : K ≤ 15
  · exact step_any h hi hN hB K W A Bv h16 hW hBv wa wn wc hw hf
  · obtain rfl : K = 16 := by omega
    have hb2 : Bv < 9223372036854775808 := by have := hBv.2; omega
    exact step_Records h hi hN hB W A Bv hW hb2 hA wa wn wc

/-- A script of steps, as it lies in memory; of each its first number is one that fits. -/
def Script16 (w : World) (a : Option Addr) (n : Nat) : Prop :=
  n = 0 ∨ ∃ g o, a = some ⟨g, o, none⟩ ∧ g < w.heap.size ∧ ∀ i, i < n → ∃ K W A Bv wa wn wc, w.cell? ⟨g, o + i * 5, none⟩ = some (.int .i64 K) ∧ w.cell? ⟨g, o + i * 5 + 1, none⟩ = some (.int .i64 W) ∧ w.cell? ⟨g, o + i * 5 + 2, none⟩ = some (.int .i64 A) ∧ w.cell? ⟨g, o + i * 5 + 3, none⟩ = some (.int .i64 Bv) ∧ w.cell? ⟨g, o + i * 5 + 4, none⟩ = some (.slice wa wn wc) ∧
    inR W ∧ inR Bv ∧ inR A ∧ WrsAt w wa wn wc

set_option maxRecDepth 100000 in
set_option maxHeartbeats 2000000 in
theorem played16_any (w : World) (a : Option Addr) (n cap : Nat) (hn : n ≤ 1100000) (_hcap : n ≤ cap) (hs : Script16 w a n) (last : Int) (hl : last ≤ 16) :
    Calls Tryz.prog 13 #[.slice a n cap, .int .i64 last] w fun e w' => e = .returned (.bool true) ∧ Below w.heap.size w w' := by
  have hbA := below_alloc w (Obj.cells #[.slice none 0 0, .slice none 0 0, .slice none 0 0, .slice none 0 0, .slice none 0 0, .slice none 0 0] 69)
  go_enter Tryz.func13, Tryz.ntmps13
  go_wp2_with fail
  have hc : ∀ k, k < 6 → (w.alloc (Obj.cells #[.slice none 0 0, .slice none 0 0, .slice none 0 0, .slice none 0 0, .slice none 0 0, .slice none 0 0] 69)).cell? ⟨w.heap.size, k, none⟩ = some (.slice none 0 0) := by
    intro k hk
    match k, hk with
    | 0, _ => simp [go_sem]
    | 1, _ => simp [go_sem]
    | 2, _ => simp [go_sem]
    | 3, _ => simp [go_sem]
    | 4, _ => simp [go_sem]
    | 5, _ => simp [go_sem]
    | k + 6, hk => omega
  have hz : ∀ k, (w.alloc (Obj.cells #[.slice none 0 0, .slice none 0 0, .slice none 0 0, .slice none 0 0, .slice none 0 0, .slice none 0 0] 69)).frozen? ⟨w.heap.size, k, none⟩ = false := by intro k; simp [go_sem]
  have hR0 := LRep.init hc hz
  have hE0 : Ext (fun _ => none) w (G0 w.heap.size).own (w.alloc (Obj.cells #[.slice none 0 0, .slice none 0 0, .slice none 0 0, .slice none 0 0, .slice none 0 0, .slice none 0 0] 69)) :=
    ⟨hbA.os, hbA.tape, hbA.output, hbA.size, fun b hb _ => ⟨hbA.block b hb, by simp only [G0]; rw [if_neg (by omega)]⟩⟩
  generalize w.alloc (Obj.cells #[.slice none 0 0, .slice none 0 0, .slice none 0 0, .slice none 0 0, .slice none 0 0, .slice none 0 0] 69) = wA at *
  have H1 := hide (step_New (N := 0) (B := 0) hR0 ⟨rfl, rfl, Nat.le_refl _, Nat.le_refl _, Nat.le_refl _, Nat.le_refl _, by omega⟩ (fun i p hp => by simp [S0] at hp) (by omega) 0 0 2 (by omega) (by omega) none 0 0)
  refine (unhide H1).mono ?_
  rintro e w1 ⟨rfl, hs1⟩
  obtain ⟨G1, S1, e1, hR1, hi1, hE1⟩ := hs1.pk hE0
  have e1 : G1.lb = w.heap.size := e1
  clear H1 hs1 hR0 hc hz
  have hb2 := below_alloc w1 (Obj.cells #[.int .i64 1, .int .i64 0, .int .i64 5, .int .i64 2, .int .i64 3, .int .i64 7] 74)
  have hw2 : WrsAt (w1.alloc (Obj.cells #[.int .i64 1, .int .i64 0, .int .i64 5, .int .i64 2, .int .i64 3, .int .i64 7] 74)) (some ⟨w1.heap.size, 0, none⟩) 2 2 := by
    refine ⟨[⟨1, 0, 5⟩, ⟨2, 3, 7⟩], rfl, by omega, by omega, .inr ⟨w1.heap.size, 0, rfl, by simp, ?_⟩, fun x hx _ => by simp only [Option.some.injEq] at hx; subst hx; simp, fun hh => by cases hh⟩
    intro i x hx
    match i, hx with
    | 0, hx => simp at hx; subst hx; simp [go_sem]
    | 1, hx => simp at hx; subst hx; simp [go_sem]
    | i + 2, hx => simp at hx
  have H2 := step_any (hR1.below hb2) hi1 (by omega) (by omega) 2 0 0 0 (by omega) ⟨by omega, by omega⟩ ⟨by omega, by omega⟩ (some ⟨w1.heap.size, 0, none⟩) 2 2 hw2 (fun x hx _ => by simp only [Option.some.injEq] at hx; subst hx; exact hR1.free (Nat.le_refl _))
  rw [e1] at H2
  have H2 := hide H2
  go_wp2_with fail
  refine (unhide H2).mono ?_
  rintro e w3 ⟨rfl, hs3⟩
  have hP3 := hs3.pk (hE1.trans (Ext.of_below hb2))
  rw [e1] at hP3
  clear H2 hs3 hR1 hE1 hw2
  go_wp2_with fail
  go_loopw [6, 7] (fun ok i wr => ∃ j : Nat, j ≤ n ∧ i = .int .i64 (j : Int) ∧ ok = .bool true ∧ PK w w.heap.size (8 + 4 * j) (2 + j) wr) (fun _ i _ => n - (intOf i).toNat)
  case atStart => exact ⟨0, Nat.zero_le _, rfl, rfl, hP3⟩
  case round =>
    obtain ⟨j, hj, rfl, rfl, G, S, eG, hR, hi, hE⟩ := hrel
    by_cases hlt : j < n
    · rcases hs with hs | ⟨g, o, rfl, hg, hop⟩
      · omega
      · obtain ⟨K, W, A, Bv, wa, wn, wc, q0, q1, q2, q3, q4, r1, r2, rA, hwr⟩ := hop j hlt
        have hk : ∀ b, b < w.heap.size → wr.heap[b]? = w.heap[b]? ∧ G.own b = none := fun b hb => hE.keep b hb rfl
        have q0 := (World.cell?_of_block (a := ⟨g, o + j * 5, none⟩) (hk g hg).1).trans q0
        have q1 := (World.cell?_of_block (a := ⟨g, o + j * 5 + 1, none⟩) (hk g hg).1).trans q1
        have q2 := (World.cell?_of_block (a := ⟨g, o + j * 5 + 2, none⟩) (hk g hg).1).trans q2
        have q3 := (World.cell?_of_block (a := ⟨g, o + j * 5 + 3, none⟩) (hk g hg).1).trans q3
        have q4 := (World.cell?_of_block (a := ⟨g, o + j * 5 + 4, none⟩) (hk g hg).1).trans q4
        have hji : (j : Int) < (n : Int) := by omega
        have HLK := hide (fun W lb N B (hp : PK w lb N B W) => (show Calls Tryz.prog 36 #[.pointer (some ⟨lb, 0, none⟩)] W (fun e w' => e = .returned (.bool true) ∧ PK w lb N B w') from by
          obtain ⟨G', S', e', hR', hi', hE'⟩ := hp
          subst e'
          refine (looks_any hR' hi'.sync).mono ?_
          rintro e w' ⟨rfl, hb⟩
          exact ⟨rfl, G', S', rfl, hR'.below hb, hi', hE'.trans (Ext.of_below hb)⟩))
        by_cases hKl : K ≤ last
        · have hwr' : WrsAt wr wa wn wc := by
            obtain ⟨ws, t1, t2, t3, t4, t5, t6⟩ := hwr
            exact ⟨ws, t1, t2, t3, t4.frame hE.size (fun x hx hne => (hk x.block (t5 x hx hne)).1), fun x hx hne => Nat.lt_of_lt_of_le (t5 x hx hne) hE.size, t6⟩
          have hwl : ∀ x, wa = some x → wn ≠ 0 → G.own x.block = none := by
            obtain ⟨ws, t1, t2, t3, t4, t5, t6⟩ := hwr
            exact fun x hx hne => (hk x.block (t5 x hx (fun e => hne (by rw [← t1, e]; rfl)))).2
          have HS := step16_any hR hi (by omega) (by omega) K W A Bv (by omega) r1 r2 rA wa wn wc hwr' hwl
          rw [eG] at HS
          have HS := hide HS
          have HE := hide hE
          clear hwr hwr' hwl hop hR hi hk r1 r2 rA
          go_wp2_with fail
          refine (unhide HS).mono ?_
          rintro e w5 ⟨rfl, hs5⟩
          have hP5 := hs5.pk (unhide HE)
          rw [eG] at hP5
          clear hs5 HS
          have hlk := hide (unhide HLK w5 _ _ _ hP5)
          clear HLK
          go_wp2_with fail
          refine (unhide hlk).mono ?_
          rintro e w6 ⟨rfl, hP6⟩
          go_wp2
          refine ⟨⟨j + 1, by omega, by go_num, rfl, ?_⟩, by simp [intOf]; omega⟩
          rw [show 8 + 4 * (j + 1) = 8 + 4 * j + 4 from by omega, show 2 + (j + 1) = 2 + j + 1 from by omega]
          exact hP6
        · have hP5 : PK w w.heap.size (8 + 4 * (j + 1)) (2 + (j + 1)) wr := ⟨G, S, eG, hR, ⟨hi.sync.mono (by omega) (by omega), fun i p hp => ⟨(hi.ok i p hp).1, (hi.ok i p hp).2.mono (by omega)⟩, hi.ne⟩, hE⟩
          have hlk := hide (unhide HLK wr _ _ _ hP5)
          clear hwr hop hR hi hk r1 r2 rA HLK hE hP5
          go_wp2_with fail
          refine (unhide hlk).mono ?_
          rintro e w6 ⟨rfl, hP6⟩
          go_wp2
          exact ⟨⟨j + 1, by omega, by go_num, rfl, hP6⟩, by simp [intOf]; omega⟩
    · have hji : ¬ (j : Int) < (n : Int) := by omega
      go_wp2
      go_ret
      exact ⟨rfl, hE.os, hE.tape, hE.output, hE.size, fun b hb => (hE.keep b hb rfl).1⟩
end Go.Proofs.YtekbjlhbjcikdaaGreat
