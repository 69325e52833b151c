/-
  L7, L8, L9, L10, L11, one behind the other.
-/
import Derived.Test.YtekbjlhbjcikdaaGreatLM1
import Derived.Test.YtekbjlhbjcikdaaGreatRM3
import Derived.Test.YtekbjlhbjcikdaaGreatLM2
import Derived.Test.YtekbjlhbjcikdaaGreatW25
import Derived.Laws.AppendOwnNone
import Derived.Deep.RegionLaw
import Derived.Test.YtekbjlhbjcikdaaGreatW26
/-
  accordlaw: walks of moves, kind by kind.
-/
namespace Acc
def LSt.put (S : LSt) (i : Nat) (r : RSt) : LSt := { S with ss := S.ss.modify i fun _ => (r.st, r) }
theorem LSt.put_eq (S : LSt) (i : Nat) (r : RSt) : (S.setX i r.st).setY i r = S.put i r := by
  unfold LSt.setX LSt.setY LSt.put
  simp only
  rw [List.modify_modify_eq]
  rfl
theorem LSt.setX_get (S : LSt) (i : Nat) (p : St × RSt) (s : St) (h : S.ss[i]? = some p) : (S.setX i s).ss[i]? = some (s, p.2) := by
  simp [LSt.setX, h]
end Acc
namespace Go.Proofs.YtekbjlhbjcikdaaGreat
open Go.RowKit Acc

def pairV (G : LLay) (i : Nat) : Value := .agg #[.pointer (some ⟨(G.X i).wb, 0, none⟩), .pointer (some ⟨(G.Y i).yb, 0, none⟩)]
/-- What a step leaves that turns world number i. -/
def MOut (G : LLay) (w : World) (S : LSt) (i B : Nat) (w' : World) : Prop := ∃ r', LLeaves G w (S.put i r') w' ∧ ROk r' B

theorem ext_cells {o o' : Nat → Option LTag} {w w' : World} (he : Ext o w o' w') {b : Nat} (hb : b < w.heap.size) (hn : o b = none) (k : Nat) : w'.cell? ⟨b, k, none⟩ = w.cell? ⟨b, k, none⟩ := World.cell?_of_block (a := ⟨b, k, none⟩) (he.keep b hb hn).1

/-- The two boxes of a call with a pair and a step. -/
structure OBox (w wq : World) (pv : Value × Value) (k W A Bv : Int) (s : Sl) : Prop where
  p0 : wq.cell? ⟨w.heap.size, 0, none⟩ = some pv.1
  p1 : wq.cell? ⟨w.heap.size, 1, none⟩ = some pv.2
  o0 : wq.cell? ⟨w.heap.size + 1, 0, none⟩ = some (.int .i64 k)
  o1 : wq.cell? ⟨w.heap.size + 1, 1, none⟩ = some (.int .i64 W)
  o2 : wq.cell? ⟨w.heap.size + 1, 2, none⟩ = some (.int .i64 A)
  o3 : wq.cell? ⟨w.heap.size + 1, 3, none⟩ = some (.int .i64 Bv)
  o4 : wq.cell? ⟨w.heap.size + 1, 4, none⟩ = some (.slice s.a s.n s.cap)
theorem OBox.new (w : World) (x y : Value) (k W A Bv : Int) (s : Sl) : OBox w ((w.alloc (Obj.cells #[x, y] 105)).alloc (Obj.cells #[.int .i64 k, .int .i64 W, .int .i64 A, .int .i64 Bv, .slice s.a s.n s.cap] 72)) (x, y) k W A Bv s := by
  constructor <;> simp [go_sem]
theorem OBox.ext {w wq wr : World} {pv : Value × Value} {k W A Bv : Int} {s : Sl} {o o' : Nat → Option LTag} (h : OBox w wq pv k W A Bv s) (he : Ext o wq o' wr) (h0 : o w.heap.size = none) (h1 : o (w.heap.size + 1) = none) : OBox w wr pv k W A Bv s := by
  have l0 := World.block_lt_of_cell? wq _ h.p0
  have l1 := World.block_lt_of_cell? wq _ h.o0
  exact ⟨(ext_cells he l0 h0 _).trans h.p0, (ext_cells he l0 h0 _).trans h.p1, (ext_cells he l1 h1 _).trans h.o0, (ext_cells he l1 h1 _).trans h.o1, (ext_cells he l1 h1 _).trans h.o2, (ext_cells he l1 h1 _).trans h.o3, (ext_cells he l1 h1 _).trans h.o4⟩

/-- Both worlds of a pair have gone on alike. -/
theorem LRep.both {w w1 : World} {G : LLay} {S : LSt} {B i : Nat} {r : RSt} (h : LRep w G S) (hp : S.ss[i]? = some (r.st, r)) {s' : St} (hok : Ok s') (hl : LeavesW (G.X i) w s' w1) :
    ∃ G1, (G1.lb = G.lb ∧ G1.Y i = G.Y i) ∧ LRep w1 G1 (S.setX i s') ∧ Ext G.own w G1.own w1 ∧ RRep w1 (G.Y i) r ∧ ∀ w2, ROut (G.Y i) w1 B s' w2 → MOut G w S i B w2 ∧ ∃ o', Ext G1.own w1 o' w2 := by
  obtain ⟨G1, e1, e2, hR1, hE1⟩ := h.actX i _ hp hl
  have hp1 := S.setX_get i _ s' hp
  have hy := hR1.ys i _ hp1
  rw [(e2 i).2] at hy
  refine ⟨G1, ⟨e1, (e2 i).2⟩, hR1, hE1, hy, ?_⟩
  rintro w2 ⟨r', hl2, hst, hz⟩
  rw [← (e2 i).2] at hl2
  obtain ⟨G2, e3, e4, hR2, hE2⟩ := hR1.actY i _ hp1 hl2
  rw [← hst, S.put_eq] at hR2
  exact ⟨⟨r', ⟨G2, e3.trans e1, hR2, hE1.trans hE2⟩, ROk.of (by rw [hst]; exact hok) hz⟩, _, hE2⟩
theorem MOut.below {G : LLay} {w w1 w2 : World} {S : LSt} {i B : Nat} (hb : Below w.heap.size w w1) (h : MOut G w1 S i B w2) : MOut G w S i B w2 := by
  obtain ⟨r', hl, hk⟩ := h
  exact ⟨r', LLeaves.below hb hl, hk⟩

set_option maxRecDepth 100000 in
set_option maxHeartbeats 1000000 in
theorem moves_Deliver {w : World} {G : LLay} {S : LSt} {B i : Nat} {r : RSt} (h : LRep w G S) (hp : S.ss[i]? = some (r.st, r)) (hk : ROk r B) (hB : B ≤ 8000000) (W A Bv : Int) (_HB2 : Bv < 9223372036854775808) (wa : Option Addr) (wn wc : Nat) :
    Calls Tryz.prog 69 #[.agg #[.pointer (some ⟨(G.X i).wb, 0, none⟩), .pointer (some ⟨(G.Y i).yb, 0, none⟩)], .agg #[.int .i64 3, .int .i64 W, .int .i64 A, .int .i64 Bv, .slice wa wn wc]] w fun e w' => e = .returned (.bool true) ∧ MOut G w S i (B + 1) w' := by
  have hbA := (below_alloc w (Obj.cells #[.pointer (some ⟨(G.X i).wb, 0, none⟩), .pointer (some ⟨(G.Y i).yb, 0, none⟩)] 105)).more (below_alloc _ (Obj.cells #[.int .i64 3, .int .i64 W, .int .i64 A, .int .i64 Bv, .slice wa wn wc] 72))
  have hbx := OBox.new w (.pointer (some ⟨(G.X i).wb, 0, none⟩)) (.pointer (some ⟨(G.Y i).yb, 0, none⟩)) 3 W A Bv ⟨wa, wn, wc⟩
  have hRA := h.below hbA
  have f0 : G.own w.heap.size = none := h.free (Nat.le_refl _)
  have f1 : G.own (w.heap.size + 1) = none := h.free (by omega)
  have hkB : ROk r (B + 1) := ROk.of hk.ok (hk.z.mono (Nat.le_succ _))
  have hX := hRA.xs i _ hp
  have HCX := hide (deliver_any hX hk.ok A)
  have hok : Ok (r.st.deliverP A).1 := hk.ok.deliverP A
  have hsm : (r.st.deliverP A).2 ≤ 100 := by unfold St.deliverP; split <;> simp
  go_enter Tryz.func69, Tryz.ntmps69
  go_wp2_with fail
  generalize (w.alloc (Obj.cells #[.pointer (some ⟨(G.X i).wb, 0, none⟩), .pointer (some ⟨(G.Y i).yb, 0, none⟩)] 105)).alloc (Obj.cells #[.int .i64 3, .int .i64 W, .int .i64 A, .int .i64 Bv, .slice wa wn wc] 72) = wA at *
  refine (unhide HCX).mono ?_
  rintro e w1 ⟨rfl, hl⟩
  obtain ⟨G1, ⟨e1, e2⟩, hR1, hE1, hy, hfin⟩ := hRA.both (B := B + 1) hp hok hl
  have hb1 := hbx.ext hE1 f0 f1
  have p1 := hb1.p1
  have o2 := hb1.o2
  have o3 := hb1.o3
  have HCY := hide (refDeliver_any hy hk hB A)
  have HNM := hide (fun W => lawNum_any (r.st.deliverP A).2 W hsm)
  have HFIN := hide hfin
  generalize hcode : (r.st.deliverP A).2 = code at *
  clear hl hR1 hy hfin hbx hb1 HCX hX hRA
  go_wp2_with fail
  refine (unhide HCY).mono ?_
  rintro e w2 ⟨rfl, ho⟩
  go_wp2_with fail
  refine (unhide HNM _).mono ?_
  rintro e w3 ⟨rfl, rfl⟩
  go_wp2_with fail
  refine (unhide HNM _).mono ?_
  rintro e w4 ⟨rfl, rfl⟩
  go_wp2
  go_ret
  exact ⟨rfl, (unhide HFIN _ ho).1.below hbA⟩

set_option maxRecDepth 100000 in
set_option maxHeartbeats 1000000 in
theorem moves_Drop {w : World} {G : LLay} {S : LSt} {B i : Nat} {r : RSt} (h : LRep w G S) (hp : S.ss[i]? = some (r.st, r)) (hk : ROk r B) (_hB : B ≤ 8000000) (W A Bv : Int) (_HB2 : Bv < 9223372036854775808) (wa : Option Addr) (wn wc : Nat) :
    Calls Tryz.prog 69 #[.agg #[.pointer (some ⟨(G.X i).wb, 0, none⟩), .pointer (some ⟨(G.Y i).yb, 0, none⟩)], .agg #[.int .i64 9, .int .i64 W, .int .i64 A, .int .i64 Bv, .slice wa wn wc]] w fun e w' => e = .returned (.bool true) ∧ MOut G w S i (B + 1) w' := by
  have hbA := (below_alloc w (Obj.cells #[.pointer (some ⟨(G.X i).wb, 0, none⟩), .pointer (some ⟨(G.Y i).yb, 0, none⟩)] 105)).more (below_alloc _ (Obj.cells #[.int .i64 9, .int .i64 W, .int .i64 A, .int .i64 Bv, .slice wa wn wc] 72))
  have hbx := OBox.new w (.pointer (some ⟨(G.X i).wb, 0, none⟩)) (.pointer (some ⟨(G.Y i).yb, 0, none⟩)) 9 W A Bv ⟨wa, wn, wc⟩
  have hRA := h.below hbA
  have f0 : G.own w.heap.size = none := h.free (Nat.le_refl _)
  have f1 : G.own (w.heap.size + 1) = none := h.free (by omega)
  have hkB : ROk r (B + 1) := ROk.of hk.ok (hk.z.mono (Nat.le_succ _))
  have hX := hRA.xs i _ hp
  have HCX := hide (drop_any hX hk.ok A)
  have hok : Ok (r.st.dropP A).1 := hk.ok.dropP A
  have hsm : (r.st.dropP A).2 ≤ 100 := by unfold St.dropP; split <;> simp
  go_enter Tryz.func69, Tryz.ntmps69
  go_wp2_with fail
  generalize (w.alloc (Obj.cells #[.pointer (some ⟨(G.X i).wb, 0, none⟩), .pointer (some ⟨(G.Y i).yb, 0, none⟩)] 105)).alloc (Obj.cells #[.int .i64 9, .int .i64 W, .int .i64 A, .int .i64 Bv, .slice wa wn wc] 72) = wA at *
  refine (unhide HCX).mono ?_
  rintro e w1 ⟨rfl, hl⟩
  obtain ⟨G1, ⟨e1, e2⟩, hR1, hE1, hy, hfin⟩ := hRA.both (B := B + 1) hp hok hl
  have hb1 := hbx.ext hE1 f0 f1
  have p1 := hb1.p1
  have o2 := hb1.o2
  have o3 := hb1.o3
  have HCY := hide (refDrop_any hy hkB A)
  have HNM := hide (fun W => lawNum_any (r.st.dropP A).2 W hsm)
  have HFIN := hide hfin
  generalize hcode : (r.st.dropP A).2 = code at *
  clear hl hR1 hy hfin hbx hb1 HCX hX hRA
  go_wp2_with fail
  refine (unhide HCY).mono ?_
  rintro e w2 ⟨rfl, ho⟩
  go_wp2_with fail
  refine (unhide HNM _).mono ?_
  rintro e w3 ⟨rfl, rfl⟩
  go_wp2_with fail
  refine (unhide HNM _).mono ?_
  rintro e w4 ⟨rfl, rfl⟩
  go_wp2
  go_ret
  exact ⟨rfl, (unhide HFIN _ ho).1.below hbA⟩

set_option maxRecDepth 100000 in
set_option maxHeartbeats 1000000 in
theorem moves_Double {w : World} {G : LLay} {S : LSt} {B i : Nat} {r : RSt} (h : LRep w G S) (hp : S.ss[i]? = some (r.st, r)) (hk : ROk r B) (_hB : B ≤ 8000000) (W A Bv : Int) (_HB2 : Bv < 9223372036854775808) (wa : Option Addr) (wn wc : Nat) :
    Calls Tryz.prog 69 #[.agg #[.pointer (some ⟨(G.X i).wb, 0, none⟩), .pointer (some ⟨(G.Y i).yb, 0, none⟩)], .agg #[.int .i64 10, .int .i64 W, .int .i64 A, .int .i64 Bv, .slice wa wn wc]] w fun e w' => e = .returned (.bool true) ∧ MOut G w S i (B + 1) w' := by
  have hbA := (below_alloc w (Obj.cells #[.pointer (some ⟨(G.X i).wb, 0, none⟩), .pointer (some ⟨(G.Y i).yb, 0, none⟩)] 105)).more (below_alloc _ (Obj.cells #[.int .i64 10, .int .i64 W, .int .i64 A, .int .i64 Bv, .slice wa wn wc] 72))
  have hbx := OBox.new w (.pointer (some ⟨(G.X i).wb, 0, none⟩)) (.pointer (some ⟨(G.Y i).yb, 0, none⟩)) 10 W A Bv ⟨wa, wn, wc⟩
  have hRA := h.below hbA
  have f0 : G.own w.heap.size = none := h.free (Nat.le_refl _)
  have f1 : G.own (w.heap.size + 1) = none := h.free (by omega)
  have hkB : ROk r (B + 1) := ROk.of hk.ok (hk.z.mono (Nat.le_succ _))
  have hX := hRA.xs i _ hp
  have HCX := hide (double_any hX hk.ok A)
  have hok : Ok (r.st.doubleP A).1 := hk.ok.doubleP A
  have hsm : (r.st.doubleP A).2 ≤ 100 := by unfold St.doubleP; split <;> simp
  go_enter Tryz.func69, Tryz.ntmps69
  go_wp2_with fail
  generalize (w.alloc (Obj.cells #[.pointer (some ⟨(G.X i).wb, 0, none⟩), .pointer (some ⟨(G.Y i).yb, 0, none⟩)] 105)).alloc (Obj.cells #[.int .i64 10, .int .i64 W, .int .i64 A, .int .i64 Bv, .slice wa wn wc] 72) = wA at *
  refine (unhide HCX).mono ?_
  rintro e w1 ⟨rfl, hl⟩
  obtain ⟨G1, ⟨e1, e2⟩, hR1, hE1, hy, hfin⟩ := hRA.both (B := B + 1) hp hok hl
  have hb1 := hbx.ext hE1 f0 f1
  have p1 := hb1.p1
  have o2 := hb1.o2
  have o3 := hb1.o3
  have HCY := hide (refDouble_any hy hkB A)
  have HNM := hide (fun W => lawNum_any (r.st.doubleP A).2 W hsm)
  have HFIN := hide hfin
  generalize hcode : (r.st.doubleP A).2 = code at *
  clear hl hR1 hy hfin hbx hb1 HCX hX hRA
  go_wp2_with fail
  refine (unhide HCY).mono ?_
  rintro e w2 ⟨rfl, ho⟩
  go_wp2_with fail
  refine (unhide HNM _).mono ?_
  rintro e w3 ⟨rfl, rfl⟩
  go_wp2_with fail
  refine (unhide HNM _).mono ?_
  rintro e w4 ⟨rfl, rfl⟩
  go_wp2
  go_ret
  exact ⟨rfl, (unhide HFIN _ ho).1.below hbA⟩

set_option maxRecDepth 100000 in
set_option maxHeartbeats 1000000 in
theorem moves_Tick {w : World} {G : LLay} {S : LSt} {B i : Nat} {r : RSt} (h : LRep w G S) (hp : S.ss[i]? = some (r.st, r)) (hk : ROk r B) (_hB : B ≤ 8000000) (W A Bv : Int) (_HB2 : Bv < 9223372036854775808) (wa : Option Addr) (wn wc : Nat) :
    Calls Tryz.prog 69 #[.agg #[.pointer (some ⟨(G.X i).wb, 0, none⟩), .pointer (some ⟨(G.Y i).yb, 0, none⟩)], .agg #[.int .i64 11, .int .i64 W, .int .i64 A, .int .i64 Bv, .slice wa wn wc]] w fun e w' => e = .returned (.bool true) ∧ MOut G w S i (B + 1) w' := by
  have hbA := (below_alloc w (Obj.cells #[.pointer (some ⟨(G.X i).wb, 0, none⟩), .pointer (some ⟨(G.Y i).yb, 0, none⟩)] 105)).more (below_alloc _ (Obj.cells #[.int .i64 11, .int .i64 W, .int .i64 A, .int .i64 Bv, .slice wa wn wc] 72))
  have hbx := OBox.new w (.pointer (some ⟨(G.X i).wb, 0, none⟩)) (.pointer (some ⟨(G.Y i).yb, 0, none⟩)) 11 W A Bv ⟨wa, wn, wc⟩
  have hRA := h.below hbA
  have f0 : G.own w.heap.size = none := h.free (Nat.le_refl _)
  have f1 : G.own (w.heap.size + 1) = none := h.free (by omega)
  have hkB : ROk r (B + 1) := ROk.of hk.ok (hk.z.mono (Nat.le_succ _))
  have hX := hRA.xs i _ hp
  have HCX := hide (tick_any hX hk.ok A)
  have hok : Ok (r.st.tickP A).1 := hk.ok.tickP A
  have hsm : (r.st.tickP A).2 ≤ 100 := by unfold St.tickP; split <;> simp; unfold St.nodeE; split <;> (try split) <;> omega
  go_enter Tryz.func69, Tryz.ntmps69
  go_wp2_with fail
  generalize (w.alloc (Obj.cells #[.pointer (some ⟨(G.X i).wb, 0, none⟩), .pointer (some ⟨(G.Y i).yb, 0, none⟩)] 105)).alloc (Obj.cells #[.int .i64 11, .int .i64 W, .int .i64 A, .int .i64 Bv, .slice wa wn wc] 72) = wA at *
  refine (unhide HCX).mono ?_
  rintro e w1 ⟨rfl, hl⟩
  obtain ⟨G1, ⟨e1, e2⟩, hR1, hE1, hy, hfin⟩ := hRA.both (B := B + 1) hp hok hl
  have hb1 := hbx.ext hE1 f0 f1
  have p1 := hb1.p1
  have o2 := hb1.o2
  have o3 := hb1.o3
  have HCY := hide (refTick_any hy hkB A)
  have HNM := hide (fun W => lawNum_any (r.st.tickP A).2 W hsm)
  have HFIN := hide hfin
  generalize hcode : (r.st.tickP A).2 = code at *
  clear hl hR1 hy hfin hbx hb1 HCX hX hRA
  go_wp2_with fail
  refine (unhide HCY).mono ?_
  rintro e w2 ⟨rfl, ho⟩
  go_wp2_with fail
  refine (unhide HNM _).mono ?_
  rintro e w3 ⟨rfl, rfl⟩
  go_wp2_with fail
  refine (unhide HNM _).mono ?_
  rintro e w4 ⟨rfl, rfl⟩
  go_wp2
  go_ret
  exact ⟨rfl, (unhide HFIN _ ho).1.below hbA⟩

set_option maxRecDepth 100000 in
set_option maxHeartbeats 1000000 in
theorem moves_Crash {w : World} {G : LLay} {S : LSt} {B i : Nat} {r : RSt} (h : LRep w G S) (hp : S.ss[i]? = some (r.st, r)) (hk : ROk r B) (_hB : B ≤ 8000000) (W A Bv : Int) (_HB2 : Bv < 9223372036854775808) (wa : Option Addr) (wn wc : Nat) :
    Calls Tryz.prog 69 #[.agg #[.pointer (some ⟨(G.X i).wb, 0, none⟩), .pointer (some ⟨(G.Y i).yb, 0, none⟩)], .agg #[.int .i64 12, .int .i64 W, .int .i64 A, .int .i64 Bv, .slice wa wn wc]] w fun e w' => e = .returned (.bool true) ∧ MOut G w S i (B + 1) w' := by
  have hbA := (below_alloc w (Obj.cells #[.pointer (some ⟨(G.X i).wb, 0, none⟩), .pointer (some ⟨(G.Y i).yb, 0, none⟩)] 105)).more (below_alloc _ (Obj.cells #[.int .i64 12, .int .i64 W, .int .i64 A, .int .i64 Bv, .slice wa wn wc] 72))
  have hbx := OBox.new w (.pointer (some ⟨(G.X i).wb, 0, none⟩)) (.pointer (some ⟨(G.Y i).yb, 0, none⟩)) 12 W A Bv ⟨wa, wn, wc⟩
  have hRA := h.below hbA
  have f0 : G.own w.heap.size = none := h.free (Nat.le_refl _)
  have f1 : G.own (w.heap.size + 1) = none := h.free (by omega)
  have hkB : ROk r (B + 1) := ROk.of hk.ok (hk.z.mono (Nat.le_succ _))
  have hX := hRA.xs i _ hp
  have HCX := hide (crash_any hX hk.ok A)
  have hok : Ok (r.st.crashP A).1 := hk.ok.crashP A
  have hsm : (r.st.crashP A).2 ≤ 100 := by unfold St.crashP; split <;> simp; unfold St.nodeE; split <;> (try split) <;> omega
  go_enter Tryz.func69, Tryz.ntmps69
  go_wp2_with fail
  generalize (w.alloc (Obj.cells #[.pointer (some ⟨(G.X i).wb, 0, none⟩), .pointer (some ⟨(G.Y i).yb, 0, none⟩)] 105)).alloc (Obj.cells #[.int .i64 12, .int .i64 W, .int .i64 A, .int .i64 Bv, .slice wa wn wc] 72) = wA at *
  refine (unhide HCX).mono ?_
  rintro e w1 ⟨rfl, hl⟩
  obtain ⟨G1, ⟨e1, e2⟩, hR1, hE1, hy, hfin⟩ := hRA.both (B := B + 1) hp hok hl
  have hb1 := hbx.ext hE1 f0 f1
  have p1 := hb1.p1
  have o2 := hb1.o2
  have o3 := hb1.o3
  have HCY := hide (refCrash_any hy hkB A)
  have HNM := hide (fun W => lawNum_any (r.st.crashP A).2 W hsm)
  have HFIN := hide hfin
  generalize hcode : (r.st.crashP A).2 = code at *
  clear hl hR1 hy hfin hbx hb1 HCX hX hRA
  go_wp2_with fail
  refine (unhide HCY).mono ?_
  rintro e w2 ⟨rfl, ho⟩
  go_wp2_with fail
  refine (unhide HNM _).mono ?_
  rintro e w3 ⟨rfl, rfl⟩
  go_wp2_with fail
  refine (unhide HNM _).mono ?_
  rintro e w4 ⟨rfl, rfl⟩
  go_wp2
  go_ret
  exact ⟨rfl, (unhide HFIN _ ho).1.below hbA⟩

set_option maxRecDepth 100000 in
set_option maxHeartbeats 1000000 in
theorem moves_Fuse {w : World} {G : LLay} {S : LSt} {B i : Nat} {r : RSt} (h : LRep w G S) (hp : S.ss[i]? = some (r.st, r)) (hk : ROk r B) (_hB : B ≤ 8000000) (W A Bv : Int) (HB2 : Bv < 9223372036854775808) (wa : Option Addr) (wn wc : Nat) :
    Calls Tryz.prog 69 #[.agg #[.pointer (some ⟨(G.X i).wb, 0, none⟩), .pointer (some ⟨(G.Y i).yb, 0, none⟩)], .agg #[.int .i64 13, .int .i64 W, .int .i64 A, .int .i64 Bv, .slice wa wn wc]] w fun e w' => e = .returned (.bool true) ∧ MOut G w S i (B + 1) w' := by
  have hbA := (below_alloc w (Obj.cells #[.pointer (some ⟨(G.X i).wb, 0, none⟩), .pointer (some ⟨(G.Y i).yb, 0, none⟩)] 105)).more (below_alloc _ (Obj.cells #[.int .i64 13, .int .i64 W, .int .i64 A, .int .i64 Bv, .slice wa wn wc] 72))
  have hbx := OBox.new w (.pointer (some ⟨(G.X i).wb, 0, none⟩)) (.pointer (some ⟨(G.Y i).yb, 0, none⟩)) 13 W A Bv ⟨wa, wn, wc⟩
  have hRA := h.below hbA
  have f0 : G.own w.heap.size = none := h.free (Nat.le_refl _)
  have f1 : G.own (w.heap.size + 1) = none := h.free (by omega)
  have hkB : ROk r (B + 1) := ROk.of hk.ok (hk.z.mono (Nat.le_succ _))
  have hX := hRA.xs i _ hp
  have HCX := hide (fuse_any hX hk.ok A Bv)
  have hok : Ok (r.st.fuseP A Bv).1 := hk.ok.fuseP A Bv HB2
  have hsm : (r.st.fuseP A Bv).2 ≤ 100 := by unfold St.fuseP; split <;> (try split) <;> simp; unfold St.nodeE; split <;> (try split) <;> omega
  go_enter Tryz.func69, Tryz.ntmps69
  go_wp2_with fail
  generalize (w.alloc (Obj.cells #[.pointer (some ⟨(G.X i).wb, 0, none⟩), .pointer (some ⟨(G.Y i).yb, 0, none⟩)] 105)).alloc (Obj.cells #[.int .i64 13, .int .i64 W, .int .i64 A, .int .i64 Bv, .slice wa wn wc] 72) = wA at *
  refine (unhide HCX).mono ?_
  rintro e w1 ⟨rfl, hl⟩
  obtain ⟨G1, ⟨e1, e2⟩, hR1, hE1, hy, hfin⟩ := hRA.both (B := B + 1) hp hok hl
  have hb1 := hbx.ext hE1 f0 f1
  have p1 := hb1.p1
  have o2 := hb1.o2
  have o3 := hb1.o3
  have HCY := hide (refFuse_any hy hkB A Bv HB2)
  have HNM := hide (fun W => lawNum_any (r.st.fuseP A Bv).2 W hsm)
  have HFIN := hide hfin
  generalize hcode : (r.st.fuseP A Bv).2 = code at *
  clear hl hR1 hy hfin hbx hb1 HCX hX hRA
  go_wp2_with fail
  refine (unhide HCY).mono ?_
  rintro e w2 ⟨rfl, ho⟩
  go_wp2_with fail
  refine (unhide HNM _).mono ?_
  rintro e w3 ⟨rfl, rfl⟩
  go_wp2_with fail
  refine (unhide HNM _).mono ?_
  rintro e w4 ⟨rfl, rfl⟩
  go_wp2
  go_ret
  exact ⟨rfl, (unhide HFIN _ ho).1.below hbA⟩

set_option maxRecDepth 100000 in
set_option maxHeartbeats 1000000 in
theorem moves_Recover {w : World} {G : LLay} {S : LSt} {B i : Nat} {r : RSt} (h : LRep w G S) (hp : S.ss[i]? = some (r.st, r)) (hk : ROk r B) (_hB : B ≤ 8000000) (W A Bv : Int) (_HB2 : Bv < 9223372036854775808) (wa : Option Addr) (wn wc : Nat) :
    Calls Tryz.prog 69 #[.agg #[.pointer (some ⟨(G.X i).wb, 0, none⟩), .pointer (some ⟨(G.Y i).yb, 0, none⟩)], .agg #[.int .i64 14, .int .i64 W, .int .i64 A, .int .i64 Bv, .slice wa wn wc]] w fun e w' => e = .returned (.bool true) ∧ MOut G w S i (B + 1) w' := by
  have hbA := (below_alloc w (Obj.cells #[.pointer (some ⟨(G.X i).wb, 0, none⟩), .pointer (some ⟨(G.Y i).yb, 0, none⟩)] 105)).more (below_alloc _ (Obj.cells #[.int .i64 14, .int .i64 W, .int .i64 A, .int .i64 Bv, .slice wa wn wc] 72))
  have hbx := OBox.new w (.pointer (some ⟨(G.X i).wb, 0, none⟩)) (.pointer (some ⟨(G.Y i).yb, 0, none⟩)) 14 W A Bv ⟨wa, wn, wc⟩
  have hRA := h.below hbA
  have f0 : G.own w.heap.size = none := h.free (Nat.le_refl _)
  have f1 : G.own (w.heap.size + 1) = none := h.free (by omega)
  have hkB : ROk r (B + 1) := ROk.of hk.ok (hk.z.mono (Nat.le_succ _))
  have hX := hRA.xs i _ hp
  have HCX := hide (recover_any hX hk.ok A)
  have hok : Ok (r.st.recoverP A).1 := hk.ok.recoverP A
  have hsm : (r.st.recoverP A).2 ≤ 100 := by unfold St.recoverP; split <;> simp; unfold St.nodeE; split <;> (try split) <;> omega
  go_enter Tryz.func69, Tryz.ntmps69
  go_wp2_with fail
  generalize (w.alloc (Obj.cells #[.pointer (some ⟨(G.X i).wb, 0, none⟩), .pointer (some ⟨(G.Y i).yb, 0, none⟩)] 105)).alloc (Obj.cells #[.int .i64 14, .int .i64 W, .int .i64 A, .int .i64 Bv, .slice wa wn wc] 72) = wA at *
  refine (unhide HCX).mono ?_
  rintro e w1 ⟨rfl, hl⟩
  obtain ⟨G1, ⟨e1, e2⟩, hR1, hE1, hy, hfin⟩ := hRA.both (B := B + 1) hp hok hl
  have hb1 := hbx.ext hE1 f0 f1
  have p1 := hb1.p1
  have o2 := hb1.o2
  have o3 := hb1.o3
  have HCY := hide (refRecover_any hy hkB A)
  have HNM := hide (fun W => lawNum_any (r.st.recoverP A).2 W hsm)
  have HFIN := hide hfin
  generalize hcode : (r.st.recoverP A).2 = code at *
  clear hl hR1 hy hfin hbx hb1 HCX hX hRA
  go_wp2_with fail
  refine (unhide HCY).mono ?_
  rintro e w2 ⟨rfl, ho⟩
  go_wp2_with fail
  refine (unhide HNM _).mono ?_
  rintro e w3 ⟨rfl, rfl⟩
  go_wp2_with fail
  refine (unhide HNM _).mono ?_
  rintro e w4 ⟨rfl, rfl⟩
  go_wp2
  go_ret
  exact ⟨rfl, (unhide HFIN _ ho).1.below hbA⟩

end Go.Proofs.YtekbjlhbjcikdaaGreat
/-
  accordlaw: walks of asks: State, Value, Holder, Up.
-/
namespace Go.Proofs.YtekbjlhbjcikdaaGreat
open Go.RowKit Acc

set_option maxRecDepth 100000 in
set_option maxHeartbeats 1000000 in
theorem asks_State {w : World} {G : LLay} {S : LSt} {B i : Nat} {r : RSt} (h : LRep w G S) (hp : S.ss[i]? = some (r.st, r)) (hk : ROk r B) (W A Bv : Int) (wa : Option Addr) (wn wc : Nat) :
    Calls Tryz.prog 70 #[.pointer (some ⟨G.lb, 0, none⟩), .agg #[.pointer (some ⟨(G.X i).wb, 0, none⟩), .pointer (some ⟨(G.Y i).yb, 0, none⟩)], .agg #[.int .i64 6, .int .i64 W, .int .i64 A, .int .i64 Bv, .slice wa wn wc]] w fun e w' => e = .returned (.bool true) ∧ LLeaves G w S w' := by
  have hbA := (below_alloc w (Obj.cells #[.pointer (some ⟨(G.X i).wb, 0, none⟩), .pointer (some ⟨(G.Y i).yb, 0, none⟩)] 105)).more (below_alloc _ (Obj.cells #[.int .i64 6, .int .i64 W, .int .i64 A, .int .i64 Bv, .slice wa wn wc] 72))
  have hbx := OBox.new w (.pointer (some ⟨(G.X i).wb, 0, none⟩)) (.pointer (some ⟨(G.Y i).yb, 0, none⟩)) 6 W A Bv ⟨wa, wn, wc⟩
  have hRA := h.below hbA
  have f0 : G.own w.heap.size = none := h.free (Nat.le_refl _)
  have f1 : G.own (w.heap.size + 1) = none := h.free (by omega)
  have hX := hRA.xs i _ hp
  have HCX := hide (state_any hX hk.ok A Bv)
  have hsm : (r.st.stateP A Bv).2 ≤ 100 := by unfold St.stateP; split <;> simp
  go_enter Tryz.func70, Tryz.ntmps70
  go_wp2_with fail
  generalize (w.alloc (Obj.cells #[.pointer (some ⟨(G.X i).wb, 0, none⟩), .pointer (some ⟨(G.Y i).yb, 0, none⟩)] 105)).alloc (Obj.cells #[.int .i64 6, .int .i64 W, .int .i64 A, .int .i64 Bv, .slice wa wn wc] 72) = wA at *
  refine (unhide HCX).mono ?_
  rintro e w1 ⟨rfl, hl⟩
  obtain ⟨hR1, hE1⟩ := hRA.readX i _ hp hl
  have hb1 := hbx.ext hE1 f0 f1
  have p1 := hb1.p1
  have o2 := hb1.o2
  have o3 := hb1.o3
  have HCY := hide (refStateP_any (hR1.ys i _ hp) hk A Bv)
  have HNM := hide (fun W => lawNum_any (r.st.stateP A Bv).2 W hsm)
  have HFIN := hide (show LLeaves G w S w1 from ⟨G, rfl, hR1, (Ext.of_below hbA).trans hE1⟩)
  generalize (r.st.stateP A Bv).2 = code at *
  generalize (r.st.stateP A Bv).1 = val at *
  clear hl hR1 hbx hb1 HCX hX hRA
  go_wp2_with fail
  refine (unhide HCY).mono ?_
  rintro e w2 ⟨rfl, rfl⟩
  go_wp2_with fail
  refine (unhide HNM _).mono ?_
  rintro e w3 ⟨rfl, rfl⟩
  go_wp2_with fail
  refine (unhide HNM _).mono ?_
  rintro e w4 ⟨rfl, rfl⟩
  go_wp2
  go_ret
  exact ⟨by simp, unhide HFIN⟩

set_option maxRecDepth 100000 in
set_option maxHeartbeats 1000000 in
theorem asks_Value {w : World} {G : LLay} {S : LSt} {B i : Nat} {r : RSt} (h : LRep w G S) (hp : S.ss[i]? = some (r.st, r)) (hk : ROk r B) (W A Bv : Int) (wa : Option Addr) (wn wc : Nat) :
    Calls Tryz.prog 70 #[.pointer (some ⟨G.lb, 0, none⟩), .agg #[.pointer (some ⟨(G.X i).wb, 0, none⟩), .pointer (some ⟨(G.Y i).yb, 0, none⟩)], .agg #[.int .i64 7, .int .i64 W, .int .i64 A, .int .i64 Bv, .slice wa wn wc]] w fun e w' => e = .returned (.bool true) ∧ LLeaves G w S w' := by
  have hbA := (below_alloc w (Obj.cells #[.pointer (some ⟨(G.X i).wb, 0, none⟩), .pointer (some ⟨(G.Y i).yb, 0, none⟩)] 105)).more (below_alloc _ (Obj.cells #[.int .i64 7, .int .i64 W, .int .i64 A, .int .i64 Bv, .slice wa wn wc] 72))
  have hbx := OBox.new w (.pointer (some ⟨(G.X i).wb, 0, none⟩)) (.pointer (some ⟨(G.Y i).yb, 0, none⟩)) 7 W A Bv ⟨wa, wn, wc⟩
  have hRA := h.below hbA
  have f0 : G.own w.heap.size = none := h.free (Nat.le_refl _)
  have f1 : G.own (w.heap.size + 1) = none := h.free (by omega)
  have hX := hRA.xs i _ hp
  have HCX := hide (value_any hX hk.ok A Bv)
  have hsm : (r.st.valueP A Bv).2 ≤ 100 := by unfold St.valueP; split <;> simp
  go_enter Tryz.func70, Tryz.ntmps70
  go_wp2_with fail
  generalize (w.alloc (Obj.cells #[.pointer (some ⟨(G.X i).wb, 0, none⟩), .pointer (some ⟨(G.Y i).yb, 0, none⟩)] 105)).alloc (Obj.cells #[.int .i64 7, .int .i64 W, .int .i64 A, .int .i64 Bv, .slice wa wn wc] 72) = wA at *
  refine (unhide HCX).mono ?_
  rintro e w1 ⟨rfl, hl⟩
  obtain ⟨hR1, hE1⟩ := hRA.readX i _ hp hl
  have hb1 := hbx.ext hE1 f0 f1
  have p1 := hb1.p1
  have o2 := hb1.o2
  have o3 := hb1.o3
  have HCY := hide (refValueP_any (hR1.ys i _ hp) hk A Bv)
  have HNM := hide (fun W => lawNum_any (r.st.valueP A Bv).2 W hsm)
  have HFIN := hide (show LLeaves G w S w1 from ⟨G, rfl, hR1, (Ext.of_below hbA).trans hE1⟩)
  generalize (r.st.valueP A Bv).2 = code at *
  generalize (r.st.valueP A Bv).1 = val at *
  clear hl hR1 hbx hb1 HCX hX hRA
  go_wp2_with fail
  refine (unhide HCY).mono ?_
  rintro e w2 ⟨rfl, rfl⟩
  go_wp2_with fail
  refine (unhide HNM _).mono ?_
  rintro e w3 ⟨rfl, rfl⟩
  go_wp2_with fail
  refine (unhide HNM _).mono ?_
  rintro e w4 ⟨rfl, rfl⟩
  go_wp2
  go_ret
  exact ⟨by simp, unhide HFIN⟩

set_option maxRecDepth 100000 in
set_option maxHeartbeats 1000000 in
theorem asks_Holder {w : World} {G : LLay} {S : LSt} {B i : Nat} {r : RSt} (h : LRep w G S) (hp : S.ss[i]? = some (r.st, r)) (hk : ROk r B) (W A Bv : Int) (wa : Option Addr) (wn wc : Nat) :
    Calls Tryz.prog 70 #[.pointer (some ⟨G.lb, 0, none⟩), .agg #[.pointer (some ⟨(G.X i).wb, 0, none⟩), .pointer (some ⟨(G.Y i).yb, 0, none⟩)], .agg #[.int .i64 8, .int .i64 W, .int .i64 A, .int .i64 Bv, .slice wa wn wc]] w fun e w' => e = .returned (.bool true) ∧ LLeaves G w S w' := by
  have hbA := (below_alloc w (Obj.cells #[.pointer (some ⟨(G.X i).wb, 0, none⟩), .pointer (some ⟨(G.Y i).yb, 0, none⟩)] 105)).more (below_alloc _ (Obj.cells #[.int .i64 8, .int .i64 W, .int .i64 A, .int .i64 Bv, .slice wa wn wc] 72))
  have hbx := OBox.new w (.pointer (some ⟨(G.X i).wb, 0, none⟩)) (.pointer (some ⟨(G.Y i).yb, 0, none⟩)) 8 W A Bv ⟨wa, wn, wc⟩
  have hRA := h.below hbA
  have f0 : G.own w.heap.size = none := h.free (Nat.le_refl _)
  have f1 : G.own (w.heap.size + 1) = none := h.free (by omega)
  have hX := hRA.xs i _ hp
  have HCX := hide (holder_any hX hk.ok A Bv)
  have hsm : (r.st.holderP A Bv).2 ≤ 100 := by unfold St.holderP; split <;> simp
  go_enter Tryz.func70, Tryz.ntmps70
  go_wp2_with fail
  generalize (w.alloc (Obj.cells #[.pointer (some ⟨(G.X i).wb, 0, none⟩), .pointer (some ⟨(G.Y i).yb, 0, none⟩)] 105)).alloc (Obj.cells #[.int .i64 8, .int .i64 W, .int .i64 A, .int .i64 Bv, .slice wa wn wc] 72) = wA at *
  refine (unhide HCX).mono ?_
  rintro e w1 ⟨rfl, hl⟩
  obtain ⟨hR1, hE1⟩ := hRA.readX i _ hp hl
  have hb1 := hbx.ext hE1 f0 f1
  have p1 := hb1.p1
  have o2 := hb1.o2
  have o3 := hb1.o3
  have HCY := hide (refHolderP_any (hR1.ys i _ hp) hk A Bv)
  have HNM := hide (fun W => lawNum_any (r.st.holderP A Bv).2 W hsm)
  have HFIN := hide (show LLeaves G w S w1 from ⟨G, rfl, hR1, (Ext.of_below hbA).trans hE1⟩)
  generalize (r.st.holderP A Bv).2 = code at *
  generalize (r.st.holderP A Bv).1 = val at *
  clear hl hR1 hbx hb1 HCX hX hRA
  go_wp2_with fail
  refine (unhide HCY).mono ?_
  rintro e w2 ⟨rfl, rfl⟩
  go_wp2_with fail
  refine (unhide HNM _).mono ?_
  rintro e w3 ⟨rfl, rfl⟩
  go_wp2_with fail
  refine (unhide HNM _).mono ?_
  rintro e w4 ⟨rfl, rfl⟩
  go_wp2
  go_ret
  exact ⟨by simp, unhide HFIN⟩

set_option maxRecDepth 100000 in
set_option maxHeartbeats 1000000 in
theorem asks_Up {w : World} {G : LLay} {S : LSt} {B i : Nat} {r : RSt} (h : LRep w G S) (hp : S.ss[i]? = some (r.st, r)) (hk : ROk r B) (W A Bv : Int) (wa : Option Addr) (wn wc : Nat) :
    Calls Tryz.prog 70 #[.pointer (some ⟨G.lb, 0, none⟩), .agg #[.pointer (some ⟨(G.X i).wb, 0, none⟩), .pointer (some ⟨(G.Y i).yb, 0, none⟩)], .agg #[.int .i64 15, .int .i64 W, .int .i64 A, .int .i64 Bv, .slice wa wn wc]] w fun e w' => e = .returned (.bool true) ∧ LLeaves G w S w' := by
  have hbA := (below_alloc w (Obj.cells #[.pointer (some ⟨(G.X i).wb, 0, none⟩), .pointer (some ⟨(G.Y i).yb, 0, none⟩)] 105)).more (below_alloc _ (Obj.cells #[.int .i64 15, .int .i64 W, .int .i64 A, .int .i64 Bv, .slice wa wn wc] 72))
  have hbx := OBox.new w (.pointer (some ⟨(G.X i).wb, 0, none⟩)) (.pointer (some ⟨(G.Y i).yb, 0, none⟩)) 15 W A Bv ⟨wa, wn, wc⟩
  have hRA := h.below hbA
  have f0 : G.own w.heap.size = none := h.free (Nat.le_refl _)
  have f1 : G.own (w.heap.size + 1) = none := h.free (by omega)
  have hX := hRA.xs i _ hp
  have HCX := hide (up_any hX hk.ok A)
  have hsm : (r.st.upP A).2 ≤ 100 := by unfold St.upP; split <;> simp
  go_enter Tryz.func70, Tryz.ntmps70
  go_wp2_with fail
  generalize (w.alloc (Obj.cells #[.pointer (some ⟨(G.X i).wb, 0, none⟩), .pointer (some ⟨(G.Y i).yb, 0, none⟩)] 105)).alloc (Obj.cells #[.int .i64 15, .int .i64 W, .int .i64 A, .int .i64 Bv, .slice wa wn wc] 72) = wA at *
  refine (unhide HCX).mono ?_
  rintro e w1 ⟨rfl, hl⟩
  obtain ⟨hR1, hE1⟩ := hRA.readX i _ hp hl
  have hb1 := hbx.ext hE1 f0 f1
  have p1 := hb1.p1
  have o2 := hb1.o2
  have o3 := hb1.o3
  have HCY := hide (refUp_any (hR1.ys i _ hp) hk A)
  have HNM := hide (fun W => lawNum_any (r.st.upP A).2 W hsm)
  have HFIN := hide (show LLeaves G w S w1 from ⟨G, rfl, hR1, (Ext.of_below hbA).trans hE1⟩)
  generalize (r.st.upP A).2 = code at *
  generalize (r.st.upP A).1 = val at *
  clear hl hR1 hbx hb1 HCX hX hRA
  go_wp2_with fail
  refine (unhide HCY).mono ?_
  rintro e w2 ⟨rfl, rfl⟩
  go_wp2_with fail
  refine (unhide HNM _).mono ?_
  rintro e w3 ⟨rfl, rfl⟩
  go_wp2_with fail
  refine (unhide HNM _).mono ?_
  rintro e w4 ⟨rfl, rfl⟩
  go_wp2
  go_ret
  exact ⟨by simp, unhide HFIN⟩

end Go.Proofs.YtekbjlhbjcikdaaGreat
/-
  accordlaw: walks of asks: Flying, Log.
-/
namespace Acc
theorem LSync.addM {S : LSt} {N : Nat} (h : LSync S N) (hN : N + 4 ≤ 8000000) (m : Int) : LSync { S with ms := S.ms ++ [m, m, m, m], m0 := S.m0 ++ [m, m, m, m] } (N + 4) :=
  ⟨by simp only; rw [h.m], h.r, by have := h.lm; simp; omega, by have := h.lr; simp only; omega, by have := h.le; simp only; omega, by have := h.lw; simp only; omega, hN⟩
theorem LSync.addR {S : LSt} {N : Nat} (h : LSync S N) (hN : N + 4 ≤ 8000000) (m : Int) : LSync { S with rs := S.rs ++ [m, m, m, m], m1 := S.m1 ++ [m, m, m, m] } (N + 4) :=
  ⟨h.m, by simp only; rw [h.r], by have := h.lm; simp only; omega, by have := h.lr; simp; omega, by have := h.le; simp only; omega, by have := h.lw; simp only; omega, hN⟩
end Acc
namespace Go.Proofs.YtekbjlhbjcikdaaGreat
open Go.RowKit Acc

/-- What a step leaves that only adds lists. -/
def AOut (G : LLay) (w : World) (S : LSt) (N : Nat) (w' : World) : Prop := ∃ S', LLeaves G w S' w' ∧ S'.ss = S.ss ∧ LSync S' (N + 4)

/-- A list that came out is fresh. -/
theorem LRep.freshen {w0 w : World} {G : LLay} {S : LSt} (h : LRep w G S) (hE : Ext G.own w0 G.own w) (t : Sl) (ho : ∀ x, t.a = some x → w0.heap.size ≤ x.block ∧ G.own x.block = none ∧ x.block < w.heap.size) :
    LRep w { G with own := tagged G.own (inSls [t]) .fresh } S ∧ Ext G.own w0 (tagged G.own (inSls [t]) .fresh) w ∧ ∀ x, t.a = some x → (tagged G.own (inSls [t]) .fresh) x.block = some .fresh := by
  refine ⟨h.retagged _ _ ?_, hE.retagged _ _ ?_, fun x hx => if_pos (inSls_of (by simp) hx)⟩
  · intro b hb
    obtain ⟨t', x, ht, hx, e⟩ := inSls_iff hb
    simp at ht
    subst ht e
    exact ⟨.inl (ho x hx).2.1, (ho x hx).2.2⟩
  · intro b hb
    obtain ⟨t', x, ht, hx, e⟩ := inSls_iff hb
    simp at ht
    subst ht e
    exact .inl (ho x hx).1

set_option maxRecDepth 100000 in
set_option maxHeartbeats 1000000 in
theorem asks_Flying {w : World} {G : LLay} {S : LSt} {N B i : Nat} {r : RSt} (h : LRep w G S) (hs : LSync S N) (hN : N + 4 ≤ 8000000) (hp : S.ss[i]? = some (r.st, r)) (hk : ROk r B) (W A Bv : Int) (wa : Option Addr) (wn wc : Nat) :
    Calls Tryz.prog 70 #[.pointer (some ⟨G.lb, 0, none⟩), .agg #[.pointer (some ⟨(G.X i).wb, 0, none⟩), .pointer (some ⟨(G.Y i).yb, 0, none⟩)], .agg #[.int .i64 4, .int .i64 W, .int .i64 A, .int .i64 Bv, .slice wa wn wc]] w fun e w' => e = .returned (.bool true) ∧ AOut G w S N w' := by
  have hbA := (below_alloc w (Obj.cells #[.pointer (some ⟨(G.X i).wb, 0, none⟩), .pointer (some ⟨(G.Y i).yb, 0, none⟩)] 105)).more (below_alloc _ (Obj.cells #[.int .i64 4, .int .i64 W, .int .i64 A, .int .i64 Bv, .slice wa wn wc] 72))
  have hbx := OBox.new w (.pointer (some ⟨(G.X i).wb, 0, none⟩)) (.pointer (some ⟨(G.Y i).yb, 0, none⟩)) 4 W A Bv ⟨wa, wn, wc⟩
  have hRA := h.below hbA
  have f0 : G.own w.heap.size = none := h.free (Nat.le_refl _)
  have f1 : G.own (w.heap.size + 1) = none := h.free (by omega)
  have hX := hRA.xs i _ hp
  have h60 : r.st.fly.length ≤ 60 := hk.ok.inv.fl
  have HCX := hide (flying_cap hX h60)
  go_enter Tryz.func70, Tryz.ntmps70
  go_wp2_with fail
  generalize (w.alloc (Obj.cells #[.pointer (some ⟨(G.X i).wb, 0, none⟩), .pointer (some ⟨(G.Y i).yb, 0, none⟩)] 105)).alloc (Obj.cells #[.int .i64 4, .int .i64 W, .int .i64 A, .int .i64 Bv, .slice wa wn wc] 72) = wA at *
  refine (unhide HCX).mono ?_
  rintro e w1 ⟨a, rfl, hl, hown⟩
  obtain ⟨hR1, hE1⟩ := hRA.readX i _ hp hl
  have hb1 := hbx.ext hE1 f0 f1
  have p1 := hb1.p1
  have hY : RRep w1 (G.Y i) r := hR1.ys i _ hp
  have y2 := hY.y2
  have hfv : (G.Y i).fv.n = r.st.fly.length := by have := hY.om.len; rw [msgCells_length] at this; show _ = r.fly.length; omega
  rw [hfv] at y2
  have hyo : Owns w1 109 4 ⟨(G.Y i).fv.a, r.st.fly.length, (G.Y i).fv.cap⟩ (msgCells r.st.fly) := by rw [← hfv]; exact hY.om
  have hxo : Owns w1 109 4 ⟨a, r.st.fly.length, r.st.fly.length⟩ (msgCells r.st.fly) := ownsRow_mono hown (Nat.zero_le _)
  have HSM := hide (sameMessages_any w1 r.st.fly a (G.Y i).fv.a r.st.fly.length r.st.fly.length (G.Y i).fv.cap rfl (by omega) hxo hyo)
  have HLK := hide (fun W (hb : Below w1.heap.size w1 W) => looks_any (hR1.below hb) hs)
  have hblk : ∀ x, a = some x → wA.heap.size ≤ x.block ∧ x.block < w1.heap.size := fun x hx => hown.lt x.block (by rw [hx]; rfl)
  have HOW := hide (fun W (hb : Below w1.heap.size w1 W) (hRf : LRep W { G with own := tagged G.own (inSls [⟨a, r.st.fly.length, r.st.fly.length⟩]) .fresh } S) (hf) => ownMessages_any hRf hs a r.st.fly.length (msgCells r.st.fly) (by omega) (hxo.frame fun x hx => hb.block _ (hxo.lt x hx)) hf (-1 - (S.ms.length : Int)) rfl)
  have HFR := hide (fun W (hb : Below w1.heap.size w1 W) => (hR1.below hb).freshen (w0 := w) (((Ext.of_below hbA).trans hE1).trans (Ext.of_below hb)) ⟨a, r.st.fly.length, r.st.fly.length⟩ (fun x hx => ⟨Nat.le_trans hbA.size (hblk x hx).1, hRA.free (hblk x hx).1, Nat.lt_of_lt_of_le (hblk x hx).2 hb.size⟩))
  clear hl hown hxo hyo hY hX HCX hbx hb1 hblk
  go_wp2_with fail
  refine (unhide HSM).mono ?_
  rintro e w2 ⟨rfl, hb2⟩
  go_wp2_with fail
  refine (unhide HLK w2 hb2).mono ?_
  rintro e w3 ⟨rfl, hb3⟩
  obtain ⟨hRf, hEf, hff⟩ := unhide HFR w3 (hb2.more hb3)
  have how := hide (unhide HOW w3 (hb2.more hb3) hRf hff)
  clear HOW HFR HLK HSM
  go_wp2_with fail
  refine (unhide how).mono ?_
  rintro e w4 ⟨rfl, hl4⟩
  go_wp2
  go_ret
  exact ⟨rfl, _, LLeaves.trans (G1 := { G with own := tagged G.own (inSls [⟨a, r.st.fly.length, r.st.fly.length⟩]) .fresh }) rfl hEf hl4, rfl, hs.addM hN _⟩

set_option maxRecDepth 100000 in
set_option maxHeartbeats 1000000 in
theorem asks_Log {w : World} {G : LLay} {S : LSt} {N B i : Nat} {r : RSt} (h : LRep w G S) (hs : LSync S N) (hN : N + 4 ≤ 8000000) (hp : S.ss[i]? = some (r.st, r)) (hk : ROk r B) (W A Bv : Int) (wa : Option Addr) (wn wc : Nat) :
    Calls Tryz.prog 70 #[.pointer (some ⟨G.lb, 0, none⟩), .agg #[.pointer (some ⟨(G.X i).wb, 0, none⟩), .pointer (some ⟨(G.Y i).yb, 0, none⟩)], .agg #[.int .i64 5, .int .i64 W, .int .i64 A, .int .i64 Bv, .slice wa wn wc]] w fun e w' => e = .returned (.bool true) ∧ AOut G w S N w' := by
  have hbA := (below_alloc w (Obj.cells #[.pointer (some ⟨(G.X i).wb, 0, none⟩), .pointer (some ⟨(G.Y i).yb, 0, none⟩)] 105)).more (below_alloc _ (Obj.cells #[.int .i64 5, .int .i64 W, .int .i64 A, .int .i64 Bv, .slice wa wn wc] 72))
  have hbx := OBox.new w (.pointer (some ⟨(G.X i).wb, 0, none⟩)) (.pointer (some ⟨(G.Y i).yb, 0, none⟩)) 5 W A Bv ⟨wa, wn, wc⟩
  have hRA := h.below hbA
  have f0 : G.own w.heap.size = none := h.free (Nat.le_refl _)
  have f1 : G.own (w.heap.size + 1) = none := h.free (by omega)
  have hX := hRA.xs i _ hp
  have h24 : (r.st.logP A).1.length ≤ 24 := by
    unfold St.logP
    split
    · exact hk.ok.inv.len _
    · simp
  have hsm : (r.st.logP A).2 ≤ 100 := by unfold St.logP; split <;> simp
  have HCX := hide (log_cap hX hk.ok A)
  go_enter Tryz.func70, Tryz.ntmps70
  go_wp2_with fail
  generalize (w.alloc (Obj.cells #[.pointer (some ⟨(G.X i).wb, 0, none⟩), .pointer (some ⟨(G.Y i).yb, 0, none⟩)] 105)).alloc (Obj.cells #[.int .i64 5, .int .i64 W, .int .i64 A, .int .i64 Bv, .slice wa wn wc] 72) = wA at *
  refine (unhide HCX).mono ?_
  rintro e w1 ⟨a, rfl, hl, hown⟩
  obtain ⟨hR1, hE1⟩ := hRA.readX i _ hp hl
  have hb1 := hbx.ext hE1 f0 f1
  have p1 := hb1.p1
  have o2 := hb1.o2
  have HCY := hide (refLogP_any (hR1.ys i _ hp) hk A)
  have HNM := hide (fun W => lawNum_any (r.st.logP A).2 W hsm)
  have hblk : ∀ x, a = some x → wA.heap.size ≤ x.block ∧ x.block < w1.heap.size := fun x hx => hown.lt x.block (by rw [hx]; rfl)
  have hxo : Owns w1 43 2 ⟨a, (r.st.logP A).1.length, (r.st.logP A).1.length⟩ (recCells (r.st.logP A).1) := ownsRow_mono hown (Nat.zero_le _)
  generalize (r.st.logP A).2 = code at *
  generalize (r.st.logP A).1 = l at *
  clear hl hown hX HCX hbx hb1
  go_wp2_with fail
  refine (unhide HCY).mono ?_
  rintro e w2 ⟨b, c, rfl, hb2, hown2⟩
  have HSM := hide (sameRecords_any w2 l a b l.length l.length c rfl (by omega) (hxo.frame fun x hx => hb2.block _ (hxo.lt x hx)) (ownsRow_mono hown2 (Nat.zero_le _)))
  have HLK := hide (fun W (hb : Below w1.heap.size w1 W) => looks_any (hR1.below hb) hs)
  have HOW := hide (fun W (hb : Below w1.heap.size w1 W) (hRf : LRep W { G with own := tagged G.own (inSls [⟨a, l.length, l.length⟩]) .fresh } S) (hf) => ownRecords_any hRf hs a l.length (recCells l) (by omega) (hxo.frame fun x hx => hb.block _ (hxo.lt x hx)) hf (-1 - (S.rs.length : Int)) rfl)
  have HFR := hide (fun W (hb : Below w1.heap.size w1 W) => (hR1.below hb).freshen (w0 := w) (((Ext.of_below hbA).trans hE1).trans (Ext.of_below hb)) ⟨a, l.length, l.length⟩ (fun x hx => ⟨Nat.le_trans hbA.size (hblk x hx).1, hRA.free (hblk x hx).1, Nat.lt_of_lt_of_le (hblk x hx).2 hb.size⟩))
  clear hown2 hxo hblk HCY
  go_wp2_with fail
  refine (unhide HSM).mono ?_
  rintro e w3 ⟨rfl, hb3⟩
  go_wp2_with fail
  refine (unhide HLK w3 (hb2.more hb3)).mono ?_
  rintro e w4 ⟨rfl, hb4⟩
  have hb14 := (hb2.more hb3).more hb4
  obtain ⟨hRf, hEf, hff⟩ := unhide HFR w4 hb14
  have how := hide (unhide HOW w4 hb14 hRf hff)
  clear HOW HFR HLK HSM
  go_wp2_with fail
  refine (unhide how).mono ?_
  rintro e w5 ⟨rfl, hl5⟩
  go_wp2_with fail
  refine (unhide HNM _).mono ?_
  rintro e w6 ⟨rfl, rfl⟩
  go_wp2_with fail
  refine (unhide HNM _).mono ?_
  rintro e w7 ⟨rfl, rfl⟩
  go_wp2
  go_ret
  exact ⟨by simp, _, LLeaves.trans (G1 := { G with own := tagged G.own (inSls [⟨a, l.length, l.length⟩]) .fresh }) rfl hEf hl5, rfl, hs.addR hN _⟩
end Go.Proofs.YtekbjlhbjcikdaaGreat
/-
  accordlaw: walk of begins.
-/
namespace Acc
def w77 : Wr := ⟨-77, 0, 0⟩
def r77 (n : Nat) : List Wr := List.replicate n w77
theorem r77_succ (ws : List Wr) (n : Nat) : ws ++ r77 (n + 1) = (ws ++ r77 n) ++ [w77] := by
  unfold r77; rw [List.replicate_succ', List.append_assoc]
end Acc
namespace Go.Proofs.YtekbjlhbjcikdaaGreat
open Go.RowKit Acc

theorem Ext.only {o o' : Nat → Option LTag} {w w1 w2 : World} {g : Nat} (he : Ext o w o' w1) (ho : Only g w1 w2) (hg : w.heap.size ≤ g) : Ext o w o' w2 :=
  ⟨ho.os.trans he.os, ho.tape.trans he.tape, ho.output.trans he.output, Nat.le_trans he.size ho.size, fun b hb hn => ⟨(ho.keep b (Nat.lt_of_lt_of_le hb he.size) (by omega)).trans (he.keep b hb hn).1, (he.keep b hb hn).2⟩⟩
theorem WrAt.frame {w w' : World} {a : Option Addr} {ws : List Wr} (h : WrAt w a ws) (hs : w.heap.size ≤ w'.heap.size) (hb : ∀ x, a = some x → ws ≠ [] → w'.heap[x.block]? = w.heap[x.block]?) : WrAt w' a ws := by
  by_cases hne : ws = []
  · exact .inl hne
  rcases h with h | ⟨g, o, ha, hg, hc⟩
  · exact .inl h
  · refine .inr ⟨g, o, ha, Nat.lt_of_lt_of_le hg hs, fun i x hx => ?_⟩
    have hk : ∀ q, w'.cell? ⟨g, q, none⟩ = w.cell? ⟨g, q, none⟩ := fun q => World.cell?_of_block (a := ⟨g, q, none⟩) (show w'.heap[g]? = w.heap[g]? from hb ⟨g, o, none⟩ ha hne)
    rw [hk, hk, hk]
    exact hc i x hx
theorem overs_get (pat xs : List Value) (i c : Nat) : (overs pat xs i)[i * pat.length + c]? = xs[i * pat.length + c]? := by
  unfold overs
  rw [List.getElem?_append_right (by rw [rep_length]; omega), rep_length, List.getElem?_drop]
  congr 1; omega
theorem overs_wr (xs : List Value) (n i : Nat) (h : xs.length = n * 3) (hi : i < n) :
    (((overs wrPat xs i).set (i * 3) (.int .i64 (-99))).set (i * 3 + 1) (.int .i64 (-99))).set (i * 3 + 2) (.int .i64 (-99)) = overs wrPat xs (i + 1) := by
  obtain ⟨a, b, c, hd⟩ : ∃ a b c, xs.drop (i * 3) = a :: b :: c :: xs.drop ((i + 1) * 3) := by
    refine ⟨xs[i * 3]'(by omega), xs[i * 3 + 1]'(by omega), xs[i * 3 + 1 + 1]'(by omega), ?_⟩
    rw [List.drop_eq_getElem_cons (by omega), List.drop_eq_getElem_cons (by omega), List.drop_eq_getElem_cons (by omega)]
    rw [show i * 3 + 1 + 1 + 1 = (i + 1) * 3 from by omega]
  have hl : (rep wrPat i).length = i * 3 := rep_length _ _
  unfold overs
  rw [show wrPat.length = 3 from rfl, hd]
  have hs : ∀ (k : Nat) (v : Value) (r : List Value), (rep wrPat i ++ r).set (i * 3 + k) v = rep wrPat i ++ r.set k v := by
    intro k v r
    rw [List.set_append, if_neg (by omega), hl, show i * 3 + k - i * 3 = k from by omega]
  have hs0 : ∀ (v : Value) (r : List Value), (rep wrPat i ++ r).set (i * 3) v = rep wrPat i ++ r.set 0 v := fun v r => hs 0 v r
  rw [hs0, hs, hs]
  simp [rep, wrPat]
theorem wrAt_of_owns {w : World} {g n cap k : Nat} {ws vs : List Wr} (h : Owns w 74 3 ⟨some ⟨g, 0, none⟩, n, cap⟩ (wrCells (ws ++ vs))) (hk : 0 < n) (_ : k = ws.length) : WrAt w (some ⟨g, 0, none⟩) ws := by
  obtain ⟨g', e, _, _, hc⟩ := h.at hk
  simp only [Option.some.injEq] at e
  injection e with e
  subst e
  refine .inr ⟨g, 0, rfl, h.lt _ rfl, fun i x hx => ?_⟩
  have hx' : (ws ++ vs)[i]? = some x := by rw [List.getElem?_append_left (List.getElem?_eq_some_iff.1 hx).1]; exact hx
  obtain ⟨q0, q1, q2⟩ := wrCells_get _ i x hx'
  have q0 := hc _ _ q0
  have q1 := hc _ _ q1
  have q2 := hc _ _ q2
  rw [show 3 * i = i * 3 from by omega] at q0 q1 q2
  simpa using ⟨q0, q1, q2⟩

/-- append of a slice that may be nil. -/
theorem wpList_append_src {P : Program} (w : World) {ops : Array Oper} {rest : List Oper} {o : Oper} {a : Act} {Q : Exit → Act → World → Prop} (hgd : o.guard = none) (s x : Operand) (t : TypeId)
    (ho : o.op = .call { callee := .builtin .append, args := #[s, x], argTypes := #[t, t] })
    (base : Nat) (e : TypeId) (i : TypeInfo) (z : Value) (size bytes : Nat) (ht : P.underlying t = some (.slice e)) (hi : P.info? e = some i) (hz : i.zero = some z)
    (hsize : i.size = size) (hby : i.bytes = bytes) (hzs : z.cells.size = size) (hsz : 0 < size)
    (v : Value) (n : Nat) (xs : List Value) (hs : a.eval s = v) (hown : w.ownsRow base e size v n xs)
    (la : Option Addr) (m c : Nat) (news : List Value) (hx : a.eval x = .slice la m c) (hsrc : (la = none ∧ m = 0 ∧ c = 0 ∧ news = []) ∨ ∃ ad, la = some ad ∧ ∀ j u, news[j]? = some u → w.cell? (ad.add j) = some u) (hl : news.length = m * size) (h1 : ∀ u ∈ news, u.oneCell' = true)
    (h63 : n + m ≤ maxLen) (hbytes : (n + m) * bytes ≤ 140737488355328) (hbase : base ≤ w.heap.size)
    (h : ∀ v' w', w'.ownsRow base e size v' (n + m) (xs ++ news) → w.grownBy w' v.ownBlock → wpList P ops Q rest (a.put o.dst v') w') : wpList P ops Q (o :: rest) a w := by
  rcases hsrc with ⟨rfl, rfl, rfl, rfl⟩ | ⟨ad, rfl, hnews⟩
  · exact wpList_append_own_none hgd s x t ho base e i size ht hi v n xs hs hown hx (h v w (by simpa using hown) ⟨rfl, rfl, rfl, Nat.le_refl _, fun _ _ _ => rfl⟩)
  · exact wpList_append_own w hgd s x t ho base e i z size bytes ht hi hz hsize hby hzs hsz v n xs hs hown ad m c news hx hl hnews h1 h63 hbytes hbase fun v' w' q1 q2 _ => h v' w' q1 q2

set_option maxRecDepth 100000 in
set_option maxHeartbeats 4000000 in
theorem begins_any {w : World} {G : LLay} {S : LSt} {N B i : Nat} {r : RSt} (h : LRep w G S) (hs : LSync S N) (hN : N + 4 ≤ 8000000) (hp : S.ss[i]? = some (r.st, r)) (hk : ROk r B) (la : Option Addr) (ln lc : Nat) (ws : List Wr) (hn : ws.length = ln) (hln : ln ≤ 2000000) (hlc : ln ≤ lc) (hw : WrAt w la ws) (hla : ∀ x, la = some x → ws ≠ [] → G.own x.block = none ∧ x.block < w.heap.size) (hl0 : la = none → ln = 0 ∧ lc = 0) :
    Calls Tryz.prog 68 #[.pointer (some ⟨G.lb, 0, none⟩), .agg #[.pointer (some ⟨(G.X i).wb, 0, none⟩), .pointer (some ⟨(G.Y i).yb, 0, none⟩)], .slice la ln lc] w fun e w' => e = .returned (.bool true) ∧ ∃ r' S', LLeaves G w S' w' ∧ S' = { S.put i r' with ne := S.ne + 1 } ∧ ROk r' B := by
  obtain ⟨i0, hii, hz0, hz1, hz2⟩ := info_parts Tryz.infoWr
  have HN2 := hide hn
  have hbA := below_alloc w (Obj.cells #[.pointer (some ⟨(G.X i).wb, 0, none⟩), .pointer (some ⟨(G.Y i).yb, 0, none⟩)] 105)
  have hpb : (w.alloc (Obj.cells #[.pointer (some ⟨(G.X i).wb, 0, none⟩), .pointer (some ⟨(G.Y i).yb, 0, none⟩)] 105)).cell? ⟨w.heap.size, 0, none⟩ = some (.pointer (some ⟨(G.X i).wb, 0, none⟩)) ∧ (w.alloc (Obj.cells #[.pointer (some ⟨(G.X i).wb, 0, none⟩), .pointer (some ⟨(G.Y i).yb, 0, none⟩)] 105)).cell? ⟨w.heap.size, 1, none⟩ = some (.pointer (some ⟨(G.Y i).yb, 0, none⟩)) := by constructor <;> simp [go_sem]
  have hszA : (w.alloc (Obj.cells #[.pointer (some ⟨(G.X i).wb, 0, none⟩), .pointer (some ⟨(G.Y i).yb, 0, none⟩)] 105)).heap.size = w.heap.size + 1 := by simp
  have hwA := hw.below hbA
  have hsrc := hwA.src
  have HWL := hide (show (wrCells ws).length = ln * 3 from by rw [wrCells_length, hn])
  have HSRC : Hid ((la = none ∧ ln = 0 ∧ lc = 0 ∧ wrCells ws = []) ∨ ∃ ad, la = some ad ∧ ∀ j u, (wrCells ws)[j]? = some u → (w.alloc (Obj.cells #[.pointer (some ⟨(G.X i).wb, 0, none⟩), .pointer (some ⟨(G.Y i).yb, 0, none⟩)] 105)).cell? (ad.add j) = some u) := by
    rcases hsrc with ⟨e1, e2⟩ | hh
    · exact .inl ⟨e1, (hl0 e1).1, (hl0 e1).2, e2⟩
    · exact .inr hh
  clear hn hsrc
  go_enter Tryz.func68, Tryz.ntmps68
  go_wp2_with (at_builtin; refine wpList_append_src _ rfl _ _ 52 rfl (w.heap.size + 1) 74 i0 (.agg #[.int .i64 0, .int .i64 0, .int .i64 0]) 3 24 Tryz.underlying52 hii hz0 hz1 hz2 rfl (by decide) (.slice none 0 0) 0 [] rfl (World.ownsRow_nil _ _ _ _) la ln lc (wrCells ws) rfl (unhide HSRC) (unhide HWL) (wrCells_one _) (by unfold maxLen; omega) (by omega) (by simp) ?_; intro v1 w1 o1 g1; obtain ⟨s1, d1, rfl⟩ := ownsRow_sl o1)
  have hB1 := (Below.refl (w.heap.size + 1) _).grown g1 (by omega) (by intro b hb; simp [Value.ownBlock] at hb)
  have o1 : w1.ownsRow (w.heap.size + 1) 74 3 (.slice s1 (ln + 0) d1) (ln + 0) (wrCells (ws ++ r77 0)) := by simpa [r77] using o1
  clear g1 HSRC
  generalize w.alloc (Obj.cells #[.pointer (some ⟨(G.X i).wb, 0, none⟩), .pointer (some ⟨(G.Y i).yb, 0, none⟩)] 105) = wA at *
  go_loopw [7, 8] (fun g i wr => ∃ (j : Nat) (s : Option Addr) (d : Nat), j ≤ 8 ∧ i = .int .i64 (j : Int) ∧ g = .slice s (ln + j) d ∧ Below (w.heap.size + 1) wA wr ∧ wr.ownsRow (w.heap.size + 1) 74 3 (.slice s (ln + j) d) (ln + j) (wrCells (ws ++ r77 j))) (fun _ i _ => 8 - (intOf i).toNat)
  case atStart => exact ⟨0, s1, d1, by omega, rfl, rfl, hB1, o1⟩
  case round =>
    obtain ⟨j, s, d, hj, rfl, rfl, hB, hown⟩ := hrel
    by_cases hlt : j < 8
    · have hji : (j : Int) < 8 := by omega
      have hBs := hB.size
      go_wp2_with (at_builtin; refine wpList_append_own _ rfl _ _ 52 rfl (w.heap.size + 1) 74 i0 (.agg #[.int .i64 0, .int .i64 0, .int .i64 0]) 3 24 Tryz.underlying52 hii hz0 hz1 hz2 rfl (by decide) (.slice s (ln + j) d) (ln + j) (wrCells (ws ++ r77 j)) rfl (World.ownsRow.alloc hown _) ⟨wr.heap.size, 0, none⟩ 1 1 [.int .i64 (-77), .int .i64 0, .int .i64 0] rfl rfl (new_cells _ _ _) (fun x hx => by simp at hx; rcases hx with rfl | rfl <;> rfl) (by unfold maxLen; omega) (by omega) (by simp; omega) ?_; intro v2 w2 o2 g2 _; obtain ⟨s2, d2, rfl⟩ := ownsRow_sl o2)
      refine ⟨⟨j + 1, s2, d2, by omega, by go_num, by rw [Nat.add_assoc], ?_, ?_⟩, by simp [intOf]; omega⟩
      · exact (hB.alloc (by omega) _).grown g2 (by simp; omega) (fun k hk => (hown.lt k hk).1)
      · rw [r77_succ, wrCells_append, ← Nat.add_assoc]; exact o2
    · have hj8 : j = 8 := by omega
      subst hj8
      obtain ⟨g0, hg0⟩ := row_some' hown (by omega)
      subst hg0
      have hg0w := hown.lt g0 rfl
      have hBw : Below w.heap.size w wr := hbA.trans (hB.mono (by omega))
      have hRr := h.below hBw
      have f0 : G.own w.heap.size = none := h.free (Nat.le_refl _)
      have fg : G.own g0 = none := h.free (by omega)
      have pb0 := (hB.cell (p := ⟨w.heap.size, 0, none⟩) (by simp)).trans hpb.1
      have pb1 := (hB.cell (p := ⟨w.heap.size, 1, none⟩) (by simp)).trans hpb.2
      have hX := hRr.xs i _ hp
      have hxw : own2 (G.X i) (G.X i).wb = some .world := by simp [own2]
      have hgx : g0 ≠ (G.X i).wb := by intro e; have := h.tx i _ _ _ hp hxw; rw [← e, fg] at this; cases this
      have hgo : Owns wr 74 3 ⟨some ⟨g0, 0, none⟩, ln + 8, d⟩ (wrCells (ws ++ r77 8)) := ownsRow_mono hown (Nat.zero_le _)
      have hcap := hgo.cap_le
      simp only at hcap
      have hld : ln ≤ d := by omega
      have HBG := hide (fun W (hb : Below wr.heap.size wr W) => begin_any (hX.below hb) hk.ok (some ⟨g0, 0, none⟩) ln d ws (unhide HN2) (by unfold maxLen; omega) (by omega) ((wrAt_of_owns (k := ws.length) hgo (by omega) rfl).below hb) (by intro x hx; injection hx with hx; subst hx; exact hgx))
      have hok : Ok (r.st.beginP ws).1 := hk.ok.beginP ws
      have HBO := hide (fun W (hb : Below wr.heap.size wr W) w1 hl => (hRr.below hb).both (w1 := w1) (B := B) hp hok hl)
      have hwl : w.heap.size < wr.heap.size := by have := hB.size; omega
      clear hX
      go_wp2_with fail
      go_region_law (go_simp; go_at_call 40; refine (unhide HBG _ (by exact (Below.refl _ _).drew)).mono ?_; rintro e w3 ⟨rfl, hl3⟩)
      obtain ⟨G1, ⟨e1, e2⟩, hR1, hE1, hy, hfin⟩ := unhide HBO _ (by exact (Below.refl _ _).drew) w3 hl3
      have pb13 := (ext_cells hE1 (b := w.heap.size) hwl f0 1).trans pb1
      have hw3 : WrAt w3 la ws := ((hw.below hBw).below (Below.refl _ _).drew).frame hE1.size (fun x hx hne => (hE1.keep x.block (by have := (hla x hx hne).2; show x.block < wr.heap.size; omega) (hla x hx hne).1).1)
      have HRB := hide (refBegin_any hy hk la ln lc ws (unhide HN2) (by unfold maxLen; omega) hlc hw3)
      have hsm : (r.st.beginP ws).2.2 ≤ 100 := by unfold St.beginP; split <;> (try split) <;> (try split) <;> simp
      have HNM := hide (fun W => lawNum_any (r.st.beginP ws).2.2 W hsm)
      have HFIN := hide hfin
      generalize (r.st.beginP ws).2.2 = code at *
      generalize (r.st.beginP ws).2.1 = num at *
      clear HBG HBO hl3 hR1 hy hfin
      go_wp2_with fail
      refine (unhide HRB).mono ?_
      rintro e w4 ⟨rfl, ho4⟩
      obtain ⟨hM4, o4, hE4⟩ := unhide HFIN w4 ho4
      have fg1 : G1.own g0 = none := (hE1.keep g0 (by exact hg0w.2) fg).2
      have hgk : w4.heap[g0]? = wr.heap[g0]? := (hE4.keep g0 (Nat.lt_of_lt_of_le hg0w.2 hE1.size) fg1).1.trans (hE1.keep g0 (by exact hg0w.2) fg).1
      have hgo4 : Owns w4 74 3 ⟨some ⟨g0, 0, none⟩, ln + 8, d⟩ (wrCells (ws ++ r77 8)) := hgo.frame fun x hx => by simp only [Option.some.injEq] at hx; subst hx; exact hgk
      have hw4 : WrAt w4 la ws := hw3.frame hE4.size (fun x hx hne => (hE4.keep x.block (by have := (hla x hx hne).2; have := hE1.size; show x.block < w3.heap.size; simp at this; omega) (hE1.keep x.block (by have := (hla x hx hne).2; show x.block < wr.heap.size; omega) (hla x hx hne).1).2).1)
      have hlg : ∀ x, la = some x → ws ≠ [] → x.block ≠ g0 := fun x hx hne e => by have := (hla x hx hne).2; omega
      have hg04 : g0 < w4.heap.size := Nat.lt_of_lt_of_le hg0w.2 (Nat.le_trans hE1.size hE4.size)
      clear HRB HFIN hE4 ho4 hgk hgo hw3 pb0 pb1 pb13 hown hpb
      go_wp2_with fail
      have hxl : (wrCells (ws ++ r77 8)).length = (ln + 8) * 3 := by rw [wrCells_length, List.length_append, unhide HN2]; simp [r77]
      have hwget : ∀ q, q < ln + 8 → ∃ y, (ws ++ r77 8)[q]? = some y ∧ (q < ln → ws[q]? = some y) ∧ (¬ q < ln → y = w77) := by
        intro q hq
        have hll : (ws ++ r77 8).length = ln + 8 := by rw [List.length_append, unhide HN2]; simp [r77]
        refine ⟨(ws ++ r77 8)[q]'(by omega), List.getElem?_eq_getElem _, fun hh => ?_, fun hh => ?_⟩
        · rw [← List.getElem?_eq_getElem (h := by omega), List.getElem?_append_left (by rw [unhide HN2]; exact hh)]
        · rw [List.getElem_append_right (by rw [unhide HN2]; omega)]
          exact List.getElem_replicate ..
      have HXL := hide hxl
      have HWG := hide hwget
      clear hxl hwget
      go_loopw [13, 14] (fun wh i wx => ∃ q : Nat, q ≤ ln + 8 ∧ i = .int .i64 (q : Int) ∧ wh = .bool true ∧ Only g0 w4 wx ∧ Owns wx 74 3 ⟨some ⟨g0, 0, none⟩, ln + 8, d⟩ (overs wrPat (wrCells (ws ++ r77 8)) q)) (fun _ i _ => ln + 8 - (intOf i).toNat)
      case atStart => exact ⟨0, Nat.zero_le _, rfl, rfl, Only.refl _ _, by rw [overs_zero]; exact hgo4⟩
      case round =>
        rename World => wx
        obtain ⟨q, hq, rfl, rfl, hon, hoq⟩ := hrel
        by_cases hlq : q < ln + 8
        · obtain ⟨y, hy1, hy2, hy3⟩ := unhide HWG q hlq
          obtain ⟨g', eg, hgc, hgf, hgcell⟩ := hoq.at (by simp)
          simp only [Option.some.injEq] at eg
          injection eg with eg
          subst eg
          obtain ⟨q0, q1, q2⟩ := wrCells_get _ q y hy1
          rw [show 3 * q = q * 3 from by omega] at q0 q1 q2
          have p0 := hgcell (q * 3) _ ((overs_get wrPat _ q 0).trans q0)
          have p1 := hgcell (q * 3 + 1) _ ((overs_get wrPat _ q 1).trans q1)
          have p2 := hgcell (q * 3 + 2) _ ((overs_get wrPat _ q 2).trans q2)
          have hqi : (q : Int) < (ln : Int) + 8 := by omega
          have HON := hide hon
          have HOQ := hide hoq
          have HOV := hide (fun W => lawOver_any W)
          have hgx4 : g0 < wx.heap.size := Nat.lt_of_lt_of_le hg04 hon.size
          clear hgcell q0 q1 q2 hy1
          by_cases hql : q < ln
          · have hwx : WrAt wx la ws := hw4.frame hon.size (fun x hx hne => hon.keep x.block (by have := (hla x hx hne).2; omega) (hlg x hx hne))
            rcases hwx with hwx | ⟨gl, ol, hgl, hgll, hcl⟩
            · have := hy2 hql; rw [hwx] at this; simp at this
            · obtain ⟨c0, c1, c2⟩ := hcl q y (hy2 hql)
              have hqn : (q : Int) < (ln : Int) := by omega
              clear hcl hy2 hy3
              subst hgl
              go_wp2_with fail
              have hbY := below_alloc wx (Obj.cells #[.int .i64 y.part, .int .i64 y.key, .int .i64 y.val] 74)
              have b0 : (wx.alloc (Obj.cells #[.int .i64 y.part, .int .i64 y.key, .int .i64 y.val] 74)).cell? ⟨wx.heap.size, 0, none⟩ = some (.int .i64 y.part) := by simp [go_sem]
              have b1 : (wx.alloc (Obj.cells #[.int .i64 y.part, .int .i64 y.key, .int .i64 y.val] 74)).cell? ⟨wx.heap.size, 1, none⟩ = some (.int .i64 y.key) := by simp [go_sem]
              have b2 : (wx.alloc (Obj.cells #[.int .i64 y.part, .int .i64 y.key, .int .i64 y.val] 74)).cell? ⟨wx.heap.size, 2, none⟩ = some (.int .i64 y.val) := by simp [go_sem]
              have p0 := (hbY.cell (p := ⟨g0, q * 3, none⟩) hgx4).trans p0
              have p1 := (hbY.cell (p := ⟨g0, q * 3 + 1, none⟩) hgx4).trans p1
              have p2 := (hbY.cell (p := ⟨g0, q * 3 + 2, none⟩) hgx4).trans p2
              have hgf := fun k => (hbY.frozen (p := ⟨g0, k, none⟩) hgx4).trans (hgf k)
              have hgy : g0 < (wx.alloc (Obj.cells #[.int .i64 y.part, .int .i64 y.key, .int .i64 y.val] 74)).heap.size := Nat.lt_of_lt_of_le hgx4 hbY.size
              generalize wx.alloc (Obj.cells #[.int .i64 y.part, .int .i64 y.key, .int .i64 y.val] 74) = wy at *
              clear c0 c1 c2
              go_region
              go_wp2_with fail
              have hbO := (unhide HOV wy.drew)
              refine hbO.mono ?_
              rintro e w5 ⟨rfl, hb5⟩
              have hbW : Below wx.heap.size wx w5 := hbY.more ((Below.refl _ _).drew.more hb5)
              have p0 := (hb5.cell (p := ⟨g0, q * 3, none⟩) hgy).trans p0
              have p1 := (hb5.cell (p := ⟨g0, q * 3 + 1, none⟩) hgy).trans p1
              have p2 := (hb5.cell (p := ⟨g0, q * 3 + 2, none⟩) hgy).trans p2
              have hgf := fun k => (hb5.frozen (p := ⟨g0, k, none⟩) hgy).trans (hgf k)
              clear b0 b1 b2 hbO HOV
              go_wp2
              have hon := unhide HON
              have hoq := unhide HOQ
              have hol := overs_length wrPat (wrCells (ws ++ r77 8)) (ln + 8) q (unhide HXL) (by omega)
              rw [show wrPat.length = 3 from rfl] at hol
              refine ⟨⟨q + 1, by omega, by go_num, rfl, (((hon.below hbW).setCell (q * 3) _).setCell (q * 3 + 1) _).setCell (q * 3 + 2) _, ?_⟩, by simp [intOf]; omega⟩
              rw [← overs_wr _ (ln + 8) q (unhide HXL) hlq]
              have ho5 := hoq.frame fun x hx => hbW.block x.block (hoq.lt x hx)
              exact ((ho5.setCell rfl (q * 3) _ (by omega)).setCell rfl (q * 3 + 1) _ (by rw [List.length_set]; omega)).setCell rfl (q * 3 + 2) _ (by rw [List.length_set, List.length_set]; omega)
          · have hqn : ¬ (q : Int) < (ln : Int) := by omega
            have hyw := hy3 hql
            subst hyw
            have p0 : wx.cell? ⟨g0, q * 3, none⟩ = some (.int .i64 (-77)) := p0
            have p1 : wx.cell? ⟨g0, q * 3 + 1, none⟩ = some (.int .i64 0) := p1
            have p2 : wx.cell? ⟨g0, q * 3 + 2, none⟩ = some (.int .i64 0) := p2
            clear hy2 hy3
            go_wp2_with fail
            have hbY := below_alloc wx (Obj.cells #[.int .i64 (-77), .int .i64 0, .int .i64 0] 74)
            have b0 : (wx.alloc (Obj.cells #[.int .i64 (-77), .int .i64 0, .int .i64 0] 74)).cell? ⟨wx.heap.size, 0, none⟩ = some (.int .i64 (-77)) := by simp [go_sem]
            have b1 : (wx.alloc (Obj.cells #[.int .i64 (-77), .int .i64 0, .int .i64 0] 74)).cell? ⟨wx.heap.size, 1, none⟩ = some (.int .i64 0) := by simp [go_sem]
            have b2 : (wx.alloc (Obj.cells #[.int .i64 (-77), .int .i64 0, .int .i64 0] 74)).cell? ⟨wx.heap.size, 2, none⟩ = some (.int .i64 0) := by simp [go_sem]
            have p0 := (hbY.cell (p := ⟨g0, q * 3, none⟩) hgx4).trans p0
            have p1 := (hbY.cell (p := ⟨g0, q * 3 + 1, none⟩) hgx4).trans p1
            have p2 := (hbY.cell (p := ⟨g0, q * 3 + 2, none⟩) hgx4).trans p2
            have hgf := fun k => (hbY.frozen (p := ⟨g0, k, none⟩) hgx4).trans (hgf k)
            have hgy : g0 < (wx.alloc (Obj.cells #[.int .i64 (-77), .int .i64 0, .int .i64 0] 74)).heap.size := Nat.lt_of_lt_of_le hgx4 hbY.size
            generalize wx.alloc (Obj.cells #[.int .i64 (-77), .int .i64 0, .int .i64 0] 74) = wy at *
            go_region
            go_wp2_with fail
            have hbO := (unhide HOV wy.drew)
            refine hbO.mono ?_
            rintro e w5 ⟨rfl, hb5⟩
            have hbW : Below wx.heap.size wx w5 := hbY.more ((Below.refl _ _).drew.more hb5)
            have p0 := (hb5.cell (p := ⟨g0, q * 3, none⟩) hgy).trans p0
            have p1 := (hb5.cell (p := ⟨g0, q * 3 + 1, none⟩) hgy).trans p1
            have p2 := (hb5.cell (p := ⟨g0, q * 3 + 2, none⟩) hgy).trans p2
            have hgf := fun k => (hb5.frozen (p := ⟨g0, k, none⟩) hgy).trans (hgf k)
            clear b0 b1 b2 hbO HOV
            go_wp2
            have hon := unhide HON
            have hoq := unhide HOQ
            have hol := overs_length wrPat (wrCells (ws ++ r77 8)) (ln + 8) q (unhide HXL) (by omega)
            rw [show wrPat.length = 3 from rfl] at hol
            refine ⟨⟨q + 1, by omega, by go_num, rfl, (((hon.below hbW).setCell (q * 3) _).setCell (q * 3 + 1) _).setCell (q * 3 + 2) _, ?_⟩, by simp [intOf]; omega⟩
            rw [← overs_wr _ (ln + 8) q (unhide HXL) hlq]
            have ho5 := hoq.frame fun x hx => hbW.block x.block (hoq.lt x hx)
            exact ((ho5.setCell rfl (q * 3) _ (by omega)).setCell rfl (q * 3 + 1) _ (by rw [List.length_set]; omega)).setCell rfl (q * 3 + 2) _ (by rw [List.length_set, List.length_set]; omega)
        · have hqe : q = ln + 8 := by omega
          subst hqe
          have hqi : ¬ ((ln : Int) + 8 < (ln : Int) + 8) := by omega
          rw [overs_full _ _ _ (unhide HXL)] at hoq
          obtain ⟨r', ⟨G2, eg2, hR2, hE2⟩, hk2⟩ := hM4
          have fg2 : G2.own g0 = none := (hE2.keep g0 (by exact hg0w.2) fg).2
          have hRx := hR2.only hon (.inr fg2)
          have c3 := hRx.c 3 (by omega)
          have z3 := hRx.fz 3
          have ne3 := hRx.lb_ne 3 (by omega)
          rw [eg2] at c3 z3 ne3
          have n3 : (G2.sv 3).n ≤ 8000000 := by rw [hRx.n3]; show S.ne ≤ _; have := hs.le; have := hs.hN; omega
          have lx := World.block_lt_of_cell? wx _ c3
          obtain ⟨i1, hj1, hy0, hy1, hy2⟩ := info_parts Tryz.infoSlR
          have HRX := hide hRx
          have HOQ := hide hoq
          have HEX : Hid (Ext G.own w G2.own wx) := ((Ext.of_below (hBw.more (Below.refl _ _).drew)).trans hE2).only hon (by omega)
          have hgx : g0 < wx.heap.size := Nat.lt_of_lt_of_le hg04 hon.size
          clear hoq hR2 hE2 hon
          go_wp2_with (at_builtin; refine wpList_append_one rfl _ _ 38 rfl 52 i1 (.slice none 0 0) 1 24 Tryz.underlying38 hj1 hy0 hy1 hy2 rfl (by decide) (G2.sv 3).a (G2.sv 3).n (G2.sv 3).cap (slCells G2.el S.ne) rfl (World.ownsRow.alloc (show wx.ownsRow 0 52 1 (.slice (G2.sv 3).a (G2.sv 3).n (G2.sv 3).cap) (G2.sv 3).n (slCells G2.el S.ne) from hRx.o 3 (by omega)) _) ⟨wx.heap.size, 0, none⟩ 1 [.slice (some ⟨g0, 0, none⟩) (ln + 8) d] rfl rfl (new_cells _ _ _) (fun x hx => by simp at hx; subst hx; rfl) (by unfold maxLen; omega) (by omega) ?_; intro k6 cap6 w6 o6 g6 p6; have hk6 := (g6.block G.lb (by simp; exact Nat.lt_succ_of_lt lx) ne3).trans ((below_alloc wx _).block G.lb lx); have c36 := (World.cell?_of_block (a := ⟨G.lb, 3, none⟩) hk6).trans c3; have f36 := (World.frozen?_of_block (a := ⟨G.lb, 3, none⟩) hk6).trans z3)
          obtain ⟨G3, e3, hR3, hE3⟩ := (unhide HRX).addE ⟨some ⟨g0, 0, none⟩, ln + 8, d⟩ (unhide HOQ) (fun x hx => by simp only [Option.some.injEq] at hx; subst hx; exact .inl fg2) (below_alloc wx _) o6 g6 p6 (o6.lt k6 rfl).2
          rw [eg2] at e3 hR3 hE3
          have hL : LLeaves G w { S.put i r' with ne := S.ne + 1 } (w6.setCell ⟨G.lb, 3, none⟩ (.slice (some ⟨k6, 0, none⟩) ((G2.sv 3).n + 1) cap6)) := by
            refine ⟨G3, e3, hR3, ((unhide HEX).retagged _ .kept ?_).trans hE3⟩
            intro b hb
            obtain ⟨t', x, ht, hx, e⟩ := inSls_iff hb
            simp at ht
            subst ht
            simp only [Option.some.injEq] at hx
            subst hx
            subst e
            left; show w.heap.size ≤ g0; omega
          have HL := hide hL
          generalize w6.setCell ⟨G.lb, 3, none⟩ (.slice (some ⟨k6, 0, none⟩) ((G2.sv 3).n + 1) cap6) = wF at *
          clear hR3 hE3 hL o6 g6 p6 c36 f36 hk6
          refine (unhide HNM _).mono ?_
          rintro e w7 ⟨rfl, rfl⟩
          go_wp2_with fail
          refine (unhide HNM _).mono ?_
          rintro e w8 ⟨rfl, rfl⟩
          go_wp2
          go_ret
          exact ⟨by simp, r', _, unhide HL, rfl, hk2⟩
end Go.Proofs.YtekbjlhbjcikdaaGreat
/-
  accordlaw's World in memory: a pair of worlds more; what a step leaves.
-/
namespace Acc
structure LInv (S : LSt) (N B : Nat) : Prop where
  sync : LSync S N
  ok : ∀ (i : Nat) (p : St × RSt), S.ss[i]? = some p → p.1 = p.2.st ∧ ROk p.2 B
  ne : 0 < S.ss.length
theorem ROk.mono {r : RSt} {B C : Nat} (h : ROk r B) (hc : B ≤ C) : ROk r C := ROk.of h.ok (h.z.mono hc)
theorem LSync.mono {S : LSt} {N M : Nat} (h : LSync S N) (hm : N ≤ M) (hM : M ≤ 8000000) : LSync S M := ⟨h.m, h.r, Nat.le_trans h.lm hm, Nat.le_trans h.lr hm, Nat.le_trans h.le hm, Nat.le_trans h.lw hm, hM⟩
theorem LInv.put {S : LSt} {N B C : Nat} (h : LInv S N B) (i : Nat) (r : RSt) (hr : ROk r C) (hc : B ≤ C) : ∀ (j : Nat) (p : St × RSt), (S.put i r).ss[j]? = some p → p.1 = p.2.st ∧ ROk p.2 C := by
  intro j p hp
  simp only [LSt.put, List.getElem?_modify] at hp
  cases hj : S.ss[j]? with
  | none => rw [hj] at hp; simp at hp
  | some q =>
    rw [hj] at hp
    by_cases e : i = j
    · simp [e] at hp; subst hp; exact ⟨rfl, hr⟩
    · simp [e] at hp; subst hp; exact ⟨(h.ok j q hj).1, (h.ok j q hj).2.mono hc⟩
end Acc
namespace Go.Proofs.YtekbjlhbjcikdaaGreat
open Go.RowKit Acc

def SOut (G : LLay) (w : World) (_S : LSt) (N B : Nat) (w' : World) : Prop := ∃ S', LLeaves G w S' w' ∧ LInv S' (N + 4) (B + 1)
theorem SOut.below {G : LLay} {w w1 w2 : World} {S : LSt} {N B : Nat} (hb : Below w.heap.size w w1) (h : SOut G w1 S N B w2) : SOut G w S N B w2 := by
  obtain ⟨S', hl, hi⟩ := h
  exact ⟨S', LLeaves.below hb hl, hi⟩
theorem MOut.step {G : LLay} {w w' : World} {S : LSt} {N B i : Nat} (h : MOut G w S i (B + 1) w') (hi : LInv S N B) (hN : N + 4 ≤ 8000000) : SOut G w S N B w' := by
  obtain ⟨r', hl, hk⟩ := h
  refine ⟨_, hl, ⟨?_, hi.put i r' hk (Nat.le_succ _), ?_⟩⟩
  · have := hi.sync.mono (Nat.le_add_right N 4) hN
    exact ⟨this.m, this.r, this.lm, this.lr, this.le, by simpa [LSt.put] using this.lw, this.hN⟩
  · simpa [LSt.put] using hi.ne
theorem LLeaves.step {G : LLay} {w w' : World} {S : LSt} {N B : Nat} (h : LLeaves G w S w') (hi : LInv S N B) (hN : N + 4 ≤ 8000000) : SOut G w S N B w' :=
  ⟨S, h, hi.sync.mono (Nat.le_add_right N 4) hN, fun i p hp => ⟨(hi.ok i p hp).1, (hi.ok i p hp).2.mono (Nat.le_succ _)⟩, hi.ne⟩
theorem AOut.step {G : LLay} {w w' : World} {S : LSt} {N B : Nat} (h : AOut G w S N w') (hi : LInv S N B) : SOut G w S N B w' := by
  obtain ⟨S', hl, hss, hs⟩ := h
  exact ⟨S', hl, hs, fun i p hp => by rw [hss] at hp; exact ⟨(hi.ok i p hp).1, (hi.ok i p hp).2.mono (Nat.le_succ _)⟩, by rw [hss]; exact hi.ne⟩
theorem begins_step {G : LLay} {w w' : World} {S : LSt} {N B i : Nat} (h : ∃ r' S', LLeaves G w S' w' ∧ S' = { S.put i r' with ne := S.ne + 1 } ∧ ROk r' B) (hi : LInv S N B) (hN : N + 4 ≤ 8000000) : SOut G w S N B w' := by
  obtain ⟨r', S', hl, rfl, hk⟩ := h
  refine ⟨_, hl, ⟨?_, hi.put i r' (hk.mono (Nat.le_succ _)) (Nat.le_succ _), ?_⟩⟩
  · have := hi.sync.mono (Nat.le_add_right N 4) hN
    exact ⟨this.m, this.r, this.lm, this.lr, by have := hi.sync.le; show S.ne + 1 ≤ N + 4; omega, by simpa [LSt.put] using this.lw, this.hN⟩
  · simpa [LSt.put] using hi.ne

theorem pairCells_more (X : Nat → Lay) (Y : Nat → RLay) (n : Nat) (L : Lay) (R : RLay) : pairCells (more X n [L]) (more Y n [R]) (n + 1) = pairCells X Y n ++ [.pointer (some ⟨L.wb, 0, none⟩), .pointer (some ⟨R.yb, 0, none⟩)] := by
  have h1 : more X n [L] n = L := more_new X n [L] 0 L rfl
  have h2 : more Y n [R] n = R := more_new Y n [R] 0 R rfl
  simp only [pairCells]
  rw [h1, h2, pairCells_congr _ X _ Y n (fun i hi => by rw [more_old _ _ _ _ hi]) (fun i hi => by rw [more_old _ _ _ _ hi])]

/-- A pair of worlds more. -/
theorem LRep.addW {w W w4 : World} {G : LLay} {S : LSt} (h : LRep w G S) (L : Lay) (R : RLay) (s : St) (r : RSt) (hL : RepW w L s) (hR : RRep w R r) (f1 : ∀ b t, own2 L b = some t → G.own b = none) (f2 : ∀ b t, R.own b = some t → G.own b = none ∧ own2 L b = none)
    (hb : Below w.heap.size w W) {k cap : Nat} (o4 : w4.ownsRow 0 105 2 (.slice (some ⟨k, 0, none⟩) ((G.sv 0).n + 1) cap) ((G.sv 0).n + 1) (pairCells G.X G.Y S.ss.length ++ [.pointer (some ⟨L.wb, 0, none⟩), .pointer (some ⟨R.yb, 0, none⟩)]))
    (g4 : W.grownBy w4 (Value.slice (G.sv 0).a (G.sv 0).n (G.sv 0).cap).ownBlock) (p4 : (G.sv 0).a = some ⟨k, 0, none⟩ ∨ W.heap.size ≤ k) (q4 : k < w4.heap.size) :
    ∃ G', G'.lb = G.lb ∧ LRep (w4.setCell ⟨G.lb, 0, none⟩ (.slice (some ⟨k, 0, none⟩) ((G.sv 0).n + 1) cap)) G' { S with ss := S.ss ++ [(s, r)] } ∧
      Ext (tagged (tagged G.own (fun b => (own2 L b).isSome) (.x S.ss.length)) (fun b => (R.own b).isSome) (.y S.ss.length)) w G'.own (w4.setCell ⟨G.lb, 0, none⟩ (.slice (some ⟨k, 0, none⟩) ((G.sv 0).n + 1) cap)) := by
  have h1 := h.retagged (fun b => (own2 L b).isSome) (.x S.ss.length) (fun b hbb => by
    cases ho : own2 L b with
    | none => simp [ho] at hbb
    | some t => exact ⟨.inl (f1 b t ho), hL.olt ho⟩)
  have h2 := h1.retagged (fun b => (R.own b).isSome) (.y S.ss.length) (fun b hbb => by
    cases ho : R.own b with
    | none => simp [ho] at hbb
    | some t =>
      refine ⟨.inl ?_, hR.lt b t ho⟩
      exact (if_neg (by simp [(f2 b t ho).2])).trans (f2 b t ho).1)
  have hu := Upd.of_many h2.lt (sa := (G.sv 0).a) (n := (G.sv 0).n) (cap := (G.sv 0).cap) (h2.ta 0 (by omega)) hb q4 g4 p4
  have hG := h2.grown 0 (by omega) hu { G with sv := fun j => if j = 0 then ⟨some ⟨k, 0, none⟩, (G.sv 0).n + 1, cap⟩ else G.sv j, X := more G.X S.ss.length [L], Y := more G.Y S.ss.length [R], own := retag (tagged (tagged G.own (fun b => (own2 L b).isSome) (.x S.ss.length)) (fun b => (R.own b).isSome) (.y S.ss.length)) k (.arr 0) } { S with ss := S.ss ++ [(s, r)] } rfl rfl rfl
    (by
      show w4.ownsRow 0 _ 2 _ _ (pairCells (more G.X S.ss.length [L]) (more G.Y S.ss.length [R]) (S.ss ++ [(s, r)]).length)
      rw [List.length_append, show [(s, r)].length = 1 from rfl, pairCells_more]; exact o4)
    (by
      intro j h6 hj
      match j, hj with
      | 0, hj => exact absurd rfl hj
      | 1, _ => rfl
      | 2, _ => rfl
      | 3, _ => rfl
      | 4, _ => rfl
      | j + 5, _ => rfl)
    (by
      intro i x hx
      show RepW w (more G.X S.ss.length [L] i) x.1 ∧ RRep w (more G.Y S.ss.length [R] i) x.2 ∧ (∀ b t, own2 (more G.X S.ss.length [L] i) b = some t → _) ∧ ∀ b t, (more G.Y S.ss.length [R] i).own b = some t → _
      rcases get_more _ _ _ _ hx with ⟨hi, hx⟩ | ⟨q, rfl, hx2⟩
      · rw [more_old _ _ _ _ hi, more_old _ _ _ _ hi]
        exact h2.hx i x hx
      · match q, hx2 with
        | 0, hx2 =>
          simp at hx2
          subst hx2
          rw [more_new G.X S.ss.length [L] 0 L rfl, more_new G.Y S.ss.length [R] 0 R rfl]
          refine ⟨hL, hR, fun b t hbt => ?_, fun b t hbt => ?_⟩
          · refine (if_neg ?_).trans (if_pos ?_)
            · cases ho : R.own b with
              | none => simp [ho]
              | some u => have := (f2 b u ho).2; rw [hbt] at this; cases this
            · simp [hbt]
          · exact if_pos (by simp [hbt])
        | q + 1, hx2 => simp at hx2)
    h2.hm h2.hr h2.he
  refine ⟨_, ?_, hG.1, hG.2⟩
  rfl
theorem Tryz.infoPair : (Tryz.prog.info? 105).map (fun i => (i.zero, i.size, i.bytes)) = some (some (.agg #[.pointer none, .pointer none]), 2, 16) := by kernel_rfl
end Go.Proofs.YtekbjlhbjcikdaaGreat
