/-
  R13, R14, R15, R20, R21, R22, R16, R17, R18, R19, one behind the other.
-/
import Derived.Test.YtekbjlhbjcikdaaGreatRM2
import Derived.Test.YtekbjlhbjcikdaaGreatW13
import Derived.Deep.DeepMust
import Derived.Test.YtekbjlhbjcikdaaGreatMR7
import Derived.Test.YtekbjlhbjcikdaaGreatW16
import Derived.Test.YtekbjlhbjcikdaaGreatW2
import Derived.Deep.DeepCutAuto
import Derived.Test.YtekbjlhbjcikdaaGreatUpd2
import Derived.Laws.AppendOwnNone
/-
  accordref: walks of taken, Drop, Double.
-/
namespace Acc
theorem msgs_split (l : List Msg) (i : Nat) : l.eraseIdx i = l.take i ++ l.drop (i + 1) := List.eraseIdx_eq_take_drop_succ l i
end Acc
namespace Go.Proofs.YtekbjlhbjcikdaaGreat
open Go.RowKit Acc

/-- What is flying has another list of messages, in new memory. -/
theorem RRep.reflown {w w3 : World} {Y : RLay} {r : RSt} (h : RRep w Y r) (ms : List Msg) {a : Option Addr} {n cap' : Nat} (hb : Below w.heap.size w w3)
    (ho : w3.ownsRow w.heap.size 109 4 (.slice a n cap') n (msgCells ms)) :
    RLeaves Y w { r with fly := ms } (w3.setCell ⟨Y.yb, 2, none⟩ (.slice a n cap')) := by
  rcases ho.2 with ⟨hv, h0⟩ | ⟨g, cap, cur, hv, hg0, hg, r'⟩
  · injection hv with e1 e2 e3
    subst e1 e2 e3
    have h3 := h.below hb
    have hbk : ∀ b, b ≠ Y.yb → (w3.setCell ⟨Y.yb, 2, none⟩ (.slice none 0 0)).heap[b]? = w3.heap[b]? := fun b hb => block_setCell hb
    have aby : Y.ab ≠ Y.yb := tag_ne h.ta h.ty (by simp)
    have ba := hbk _ aby
    refine ⟨{ Y with fv := ⟨none, 0, 0⟩ }, ⟨rfl, rfl⟩, ?_, hb.os, hb.tape, hb.output, by have := hb.size; simpa [World.setCell] using this, ?_⟩
    · exact ⟨(cell_set_ne (by omega)).trans h3.y0, (cell_set_ne (by omega)).trans h3.y1, cell_set_same h3.y2, fun o => by simpa using h3.fy o, h3.ac,
        fun i hi => (World.cell?_of_block ba).trans (h3.n0 i hi), fun i hi => (World.cell?_of_block ba).trans (h3.n1 i hi), fun i hi => (World.cell?_of_block ba).trans (h3.n2 i hi), fun i hi => (World.cell?_of_block ba).trans (h3.n3 i hi), fun o => (World.frozen?_of_block ba).trans (h3.fa o),
        fun i hi => (h3.ol i hi).frame fun a ha => hbk _ (tag_ne (h3.tl i hi a ha) h.ty (by simp)), fun i hi => (h3.ov i hi).frame fun a ha => hbk _ (tag_ne (h3.tv i hi a ha) h.ty (by simp)),
        h3.od.frame fun a ha => hbk _ (tag_ne (h3.td a ha) h.ty (by simp)), fun t ht => (h3.ow t ht).frame fun a ha => hbk _ (tag_ne (h3.tw t ht a ha) h.ty (by simp)),
        (show Owns _ _ _ ⟨none, 0, 0⟩ _ from by
          have := ho.1
          have hz : msgCells ms = [] := List.length_eq_zero_iff.1 (by simpa using this)
          simp only
          rw [hz]; exact World.ownsRow_nil _ _ _ _), h3.ty, h3.ta, h3.tl, h3.tv, h3.td, h3.tw, (fun a ha => by cases ha), fun b t hbt => by have := h3.lt b t hbt; simpa [World.setCell] using this⟩
    · intro b hlt hn
      refine ⟨?_, hn⟩
      rw [hbk b (fun e => by rw [e, h.ty] at hn; cases hn)]
      exact hb.block b hlt
  · injection hv with e1 e2 e3
    subst e1
    have hgl := (ho.lt g rfl).2
    have hu : Upd w w3 Y.own .fly g := ⟨hb.os, hb.tape, hb.output, hb.size, fun b u hbu _ => hb.block b (h.lt b u hbu), fun b hlt _ => hb.block b hlt, .inr ⟨h.free hg0, hg0⟩, hgl⟩
    exact h.flown ms hu (ownsRow_mono ho (Nat.zero_le _))

theorem msgLen_take (l : List Msg) (i : Nat) (hi : i ≤ l.length) : (msgCells (l.take i)).length = i * 4 := by rw [msgCells_length, List.length_take]; omega
theorem msgLen_drop (l : List Msg) (i : Nat) : (msgCells (l.drop i)).length = (l.length - i) * 4 := by rw [msgCells_length, List.length_drop]
theorem msgCells_at (l : List Msg) (i j : Nat) (hi : i ≤ l.length) (u : Value) (h : (msgCells (l.drop i))[j]? = some u) : (msgCells l)[i * 4 + j]? = some u := by
  have e : msgCells l = msgCells (l.take i) ++ msgCells (l.drop i) := by rw [← msgCells_append, List.take_append_drop]
  rw [e, List.getElem?_append_right (by rw [msgLen_take l i hi]; omega), msgLen_take l i hi]
  rw [show i * 4 + j - i * 4 = j from by omega]; exact h
theorem msgCells_at0 (l : List Msg) (i j : Nat) (u : Value) (h : (msgCells (l.take i))[j]? = some u) : (msgCells l)[j]? = some u := by
  have e : msgCells l = msgCells (l.take i) ++ msgCells (l.drop i) := by rw [← msgCells_append, List.take_append_drop]
  rw [e, List.getElem?_append_left (List.getElem?_eq_some_iff.1 h).1]; exact h
/-- The two boxes of taken: what it answers, and the message that it took. -/
structure TBox (w wq : World) (m : Msg) : Prop where
  x0 : wq.cell? ⟨w.heap.size + 1, 0, none⟩ = some (.int .i64 m.kind)
  x1 : wq.cell? ⟨w.heap.size + 1, 1, none⟩ = some (.int .i64 m.frm)
  x2 : wq.cell? ⟨w.heap.size + 1, 2, none⟩ = some (.int .i64 m.to)
  x3 : wq.cell? ⟨w.heap.size + 1, 3, none⟩ = some (.int .i64 m.trans)
  y0 : wq.cell? ⟨w.heap.size, 0, none⟩ = some (.int .i64 0)
  y1 : wq.cell? ⟨w.heap.size, 1, none⟩ = some (.int .i64 0)
  y2 : wq.cell? ⟨w.heap.size, 2, none⟩ = some (.int .i64 0)
  y3 : wq.cell? ⟨w.heap.size, 3, none⟩ = some (.int .i64 0)
  zf : ∀ o, wq.frozen? ⟨w.heap.size, o, none⟩ = false
theorem TBox.grown {w wq wr : World} {m : Msg} {row : Option Nat} (h : TBox w wq m) (hg : wq.grownBy wr row) (h0 : some w.heap.size ≠ row) (h1 : some (w.heap.size + 1) ≠ row) : TBox w wr m :=
  ⟨hg.cell h.x0 h1, hg.cell h.x1 h1, hg.cell h.x2 h1, hg.cell h.x3 h1, hg.cell h.y0 h0, hg.cell h.y1 h0, hg.cell h.y2 h0, hg.cell h.y3 h0, fun o => (World.frozen?_of_block (a := ⟨w.heap.size, o, none⟩) (hg.block w.heap.size (World.block_lt_of_cell? wq ⟨w.heap.size, 0, none⟩ h.y0) h0)).trans (h.zf o)⟩
theorem TBox.new (w : World) (m : Msg) : TBox w ((w.alloc (Obj.cells #[Value.int IntKind.i64 0, Value.int IntKind.i64 0, Value.int IntKind.i64 0, Value.int IntKind.i64 0] 109)).alloc (Obj.cells #[Value.int IntKind.i64 m.kind, Value.int IntKind.i64 m.frm, Value.int IntKind.i64 m.to, Value.int IntKind.i64 m.trans] 109)) m := by
  constructor
  case zf => intro o; simp [go_sem]
  all_goals simp [go_sem]
theorem RLeaves.box {Y : RLay} {w w2 W W' : World} {r : RSt} {b : Nat} (hb : Below w.heap.size w w2) (hl : RLeaves Y w2 r W) (h1 : w.heap.size ≤ b) (h2 : b < w2.heap.size) (hn : Y.own b = none) (hw : But b W W') : RLeaves Y w r W' := by
  obtain ⟨Y', e, hR, hE⟩ := hl
  have hbn := (hE.keep b h2 hn).2
  refine ⟨Y', e, hR.frame hw.size fun k t hk => hw.keep k (fun e => by rw [e, hbn] at hk; cases hk), ?_⟩
  have hE2 := (Ext.of_below (o := Y.own) hb).trans hE
  exact ⟨hw.os.trans hE2.os, hw.tape.trans hE2.tape, hw.output.trans hE2.output, Nat.le_trans hE2.size hw.size, fun k hk hkn => ⟨(hw.keep k (by omega)).trans (hE2.keep k hk hkn).1, (hE2.keep k hk hkn).2⟩⟩
theorem addr_add_at' (g o j : Nat) : (⟨g, o, none⟩ : Addr).add j = ⟨g, o + j, none⟩ := by unfold Addr.add; split <;> simp_all

set_option maxRecDepth 100000 in
set_option maxHeartbeats 4000000 in
theorem refTaken_any {w : World} {Y : RLay} {r : RSt} (h : RRep w Y r) (hfl : r.fly.length ≤ 60) (i : Nat) (m : Msg) (hi : r.fly[i]? = some m) :
    Calls Tryz.prog 143 #[.pointer (some ⟨Y.yb, 0, none⟩), .int .i64 i] w fun e w' => e = .returned (.tuple #[.agg #[.int .i64 m.kind, .int .i64 m.frm, .int .i64 m.to, .int .i64 m.trans], .bool true]) ∧ RLeaves Y w { r with fly := r.fly.eraseIdx i } w' := by
  have hil : i < r.fly.length := (List.getElem?_eq_some_iff.1 hi).1
  have HD := hide (by have := h.om.len; rw [msgCells_length] at this; omega : Y.fv.n = r.fly.length)
  have hin : i < Y.fv.n := by rw [unhide HD]; exact hil
  have hdn : Y.fv.n ≤ 60 := by rw [unhide HD]; exact hfl
  have cf := h.y2
  have hnb := World.block_lt_of_cell? w _ cf
  obtain ⟨g, ha, hcap, hfz, hc⟩ := h.om.at (by omega)
  rw [ha] at cf
  obtain ⟨m0, m1, m2, m3⟩ := msgCells_get r.fly i m hi
  have m0 := hc _ _ m0
  have m1 := hc _ _ m1
  have m2 := hc _ _ m2
  have m3 := hc _ _ m3
  have hgl := World.block_lt_of_cell? w _ m0
  rw [show 4 * i = i * 4 from by omega] at m0 m1 m2 m3
  have HC := hide hc
  have HIL := hide hil
  obtain ⟨i0, hii, hz0, hz1, hz2⟩ := info_parts Tryz.infoMsg
  have hn1 : ∀ W, Below w.heap.size w W → ∀ j u, (msgCells (r.fly.take i))[j]? = some u → W.cell? ((⟨g, 0, none⟩ : Addr).add j) = some u := by
    intro W hb j u hu
    rw [addr_add_at', Nat.zero_add]
    exact (hb.cell (p := ⟨g, j, none⟩) hgl).trans (hc _ _ (msgCells_at0 _ _ _ _ hu))
  have hn2 : ∀ W, Below w.heap.size w W → ∀ j u, (msgCells (r.fly.drop (i + 1)))[j]? = some u → W.cell? ((⟨g, (i + 1) * 4, none⟩ : Addr).add j) = some u := by
    intro W hb j u hu
    rw [addr_add_at']
    exact (hb.cell (p := ⟨g, (i + 1) * 4 + j, none⟩) hgl).trans (hc _ _ (msgCells_at _ _ _ (by omega) _ hu))
  have hl1 : (msgCells (r.fly.take i)).length = i * 4 := msgLen_take _ _ (by omega)
  have hl2 : (msgCells (r.fly.drop (i + 1))).length = (Y.fv.n - (i + 1)) * 4 := by rw [msgLen_drop, unhide HD]
  have hsp : msgCells (r.fly.eraseIdx i) = msgCells (r.fly.take i) ++ msgCells (r.fly.drop (i + 1)) := by rw [msgs_split, msgCells_append]
  have HX := hide (And.intro hn1 (And.intro hn2 (And.intro hl1 (And.intro hl2 hsp))))
  have HN0 : Hid (i + 1 = Y.fv.n → msgCells (r.fly.drop (i + 1)) = []) := by
    intro e
    rw [List.drop_of_length_le (by rw [← unhide HD]; omega)]; rfl
  clear hc hi hil hfl ha hn1 hn2 hl1 hl2 hsp
  have hi0 : ¬ ((i : Int) < 0) := by omega
  have hiN : ¬ ((Y.fv.n : Int) ≤ (i : Int)) := by omega
  have hb2 : Below w.heap.size w ((w.alloc (Obj.cells #[Value.int IntKind.i64 0, Value.int IntKind.i64 0, Value.int IntKind.i64 0, Value.int IntKind.i64 0] 109)).alloc (Obj.cells #[Value.int IntKind.i64 m.kind, Value.int IntKind.i64 m.frm, Value.int IntKind.i64 m.to, Value.int IntKind.i64 m.trans] 109)) := (below_alloc _ _).more (below_alloc _ _)
  have hRep := h
  by_cases hcc : i + 1 < Y.fv.cap
  · go_enter Tryz.func143, Tryz.ntmps143
    go_wp2_with (at_builtin; first
      | (refine wpList_append_own _ rfl _ _ 53 rfl (w.heap.size + 2) 109 i0 (.agg #[.int .i64 0, .int .i64 0, .int .i64 0, .int .i64 0]) 4 32 Tryz.underlying53 hii hz0 hz1 hz2 rfl (by decide) (.slice none 0 0) 0 [] rfl (World.ownsRow_nil _ _ _ _) ⟨g, 0, none⟩ i Y.fv.cap (msgCells (r.fly.take i)) rfl (unhide HX).2.2.1 ((unhide HX).1 _ hb2) (msgCells_one _) (by unfold maxLen; omega) (by omega) (by simp) ?_; intro v3 w3 ho3 hg3 _; have hb3 : Below w.heap.size w w3 := hb2.grown hg3 hb2.size (by intro b hb; simp [Value.ownBlock] at hb); have cf3 := (hb3.cell (p := ⟨Y.yb, 2, none⟩) hnb).trans cf; have hB3 := (Below.refl (w.heap.size + 2) _).grown hg3 (by simp) (by intro b hb; simp [Value.ownBlock] at hb); have hbx := (TBox.new w m).grown hg3 (by simp [Value.ownBlock]) (by simp [Value.ownBlock]); have hs3 := hg3.size; simp at hs3; clear hg3)
      | go_must (refine wpList_append_own _ rfl _ _ 53 rfl (w.heap.size + 2) 109 i0 (.agg #[.int .i64 0, .int .i64 0, .int .i64 0, .int .i64 0]) 4 32 Tryz.underlying53 hii hz0 hz1 hz2 rfl (by decide) v3 (0 + i) ([] ++ msgCells (r.fly.take i)) rfl ho3 ⟨g, (i + 1) * 4, none⟩ (Y.fv.n - (i + 1)) (Y.fv.cap - (i + 1)) (msgCells (r.fly.drop (i + 1))) rfl (unhide HX).2.2.2.1 ((unhide HX).2.1 _ hb3) (msgCells_one _) (by unfold maxLen; omega) (by omega) (by omega) ?_; intro v4 w4 ho4 hg4 _; obtain ⟨sa4, sc4, rfl⟩ := ownsRow_sl ho4; have hb4 : Below w.heap.size w w4 := hb3.grown hg4 hb3.size (by intro k hk; have := (ho3.lt k hk).1; omega); have hv3 : some (w.heap.size + 1) ≠ v3.ownBlock := (by intro e; have := (ho3.lt _ e.symm).1; omega); have hv3' : some w.heap.size ≠ v3.ownBlock := (by intro e; have := (ho3.lt _ e.symm).1; omega); have cf4 := (hb4.cell (p := ⟨Y.yb, 2, none⟩) hnb).trans cf; have fz4 := (hb4.frozen (p := ⟨Y.yb, 2, none⟩) hnb).trans (h.fy 2); have hB4 := hB3.grown hg4 (by omega) (by intro k hk; exact (ho3.lt k hk).1); have hbx := hbx.grown hg4 hv3' hv3; have x0 := hbx.x0; have x1 := hbx.x1; have x2 := hbx.x2; have x3 := hbx.x3; have q0 := hbx.y0; have q1 := hbx.y1; have q2 := hbx.y2; have q3 := hbx.y3; have zf := hbx.zf; have hs4 := hg4.size; clear hg4))
    refine bodyPost_ret (v := .tuple #[.agg #[.int .i64 m.kind, .int .i64 m.frm, .int .i64 m.to, .int .i64 m.trans], .bool true]) (by simp [results, Tryz.results143, go_sem, *]) rfl ⟨rfl, ?_⟩
    have hsz : ((w.alloc (Obj.cells #[Value.int IntKind.i64 0, Value.int IntKind.i64 0, Value.int IntKind.i64 0, Value.int IntKind.i64 0] 109)).alloc (Obj.cells #[Value.int IntKind.i64 m.kind, Value.int IntKind.i64 m.frm, Value.int IntKind.i64 m.to, Value.int IntKind.i64 m.trans] 109)).heap.size = w.heap.size + 2 := by simp
    have ho5 : w4.ownsRow (w.heap.size + 2) 109 4 (.slice sa4 (i + (Y.fv.n - (i + 1))) sc4) (i + (Y.fv.n - (i + 1))) (msgCells (r.fly.eraseIdx i)) := by
      rw [(unhide HX).2.2.2.2]; simpa using ho4
    rw [← hsz] at ho5 hB4
    have hl := (hRep.below hb2).reflown (r.fly.eraseIdx i) hB4 ho5
    refine RLeaves.box hb2 hl (Nat.le_refl _) (by rw [hsz]; omega) (hRep.free (Nat.le_refl _)) ?_
    exact ((((But.refl w.heap.size _).setCell ⟨w.heap.size, 0, none⟩ rfl _).setCell ⟨w.heap.size, 1, none⟩ rfl _).setCell ⟨w.heap.size, 2, none⟩ rfl _).setCell ⟨w.heap.size, 3, none⟩ rfl _
  · go_enter Tryz.func143, Tryz.ntmps143
    go_wp2_with (at_builtin; first
      | (refine wpList_append_own _ rfl _ _ 53 rfl (w.heap.size + 2) 109 i0 (.agg #[.int .i64 0, .int .i64 0, .int .i64 0, .int .i64 0]) 4 32 Tryz.underlying53 hii hz0 hz1 hz2 rfl (by decide) (.slice none 0 0) 0 [] rfl (World.ownsRow_nil _ _ _ _) ⟨g, 0, none⟩ i Y.fv.cap (msgCells (r.fly.take i)) rfl (unhide HX).2.2.1 ((unhide HX).1 _ hb2) (msgCells_one _) (by unfold maxLen; omega) (by omega) (by simp) ?_; intro v3 w3 ho3 hg3 _; have hb3 : Below w.heap.size w w3 := hb2.grown hg3 hb2.size (by intro b hb; simp [Value.ownBlock] at hb); have cf3 := (hb3.cell (p := ⟨Y.yb, 2, none⟩) hnb).trans cf; have hB3 := (Below.refl (w.heap.size + 2) _).grown hg3 (by simp) (by intro b hb; simp [Value.ownBlock] at hb); have hbx := (TBox.new w m).grown hg3 (by simp [Value.ownBlock]) (by simp [Value.ownBlock]); have hs3 := hg3.size; simp at hs3; clear hg3)
      | go_must (refine wpList_append_own _ rfl _ _ 53 rfl (w.heap.size + 2) 109 i0 (.agg #[.int .i64 0, .int .i64 0, .int .i64 0, .int .i64 0]) 4 32 Tryz.underlying53 hii hz0 hz1 hz2 rfl (by decide) v3 (0 + i) ([] ++ msgCells (r.fly.take i)) rfl ho3 ⟨g, 0, none⟩ (Y.fv.n - (i + 1)) (Y.fv.cap - (i + 1)) (msgCells (r.fly.drop (i + 1))) (by show Value.slice (if Y.fv.cap = i + 1 then some ⟨g, 0, none⟩ else some ⟨g, (i + 1) * 4, none⟩) _ _ = _; rw [if_pos (by omega)]) (unhide HX).2.2.2.1 (fun j u hu => by rw [unhide HN0 (by omega)] at hu; simp at hu) (msgCells_one _) (by unfold maxLen; omega) (by omega) (by omega) ?_; intro v4 w4 ho4 hg4 _; obtain ⟨sa4, sc4, rfl⟩ := ownsRow_sl ho4; have hb4 : Below w.heap.size w w4 := hb3.grown hg4 hb3.size (by intro k hk; have := (ho3.lt k hk).1; omega); have hv3 : some (w.heap.size + 1) ≠ v3.ownBlock := (by intro e; have := (ho3.lt _ e.symm).1; omega); have hv3' : some w.heap.size ≠ v3.ownBlock := (by intro e; have := (ho3.lt _ e.symm).1; omega); have cf4 := (hb4.cell (p := ⟨Y.yb, 2, none⟩) hnb).trans cf; have fz4 := (hb4.frozen (p := ⟨Y.yb, 2, none⟩) hnb).trans (h.fy 2); have hB4 := hB3.grown hg4 (by omega) (by intro k hk; exact (ho3.lt k hk).1); have hbx := hbx.grown hg4 hv3' hv3; have x0 := hbx.x0; have x1 := hbx.x1; have x2 := hbx.x2; have x3 := hbx.x3; have q0 := hbx.y0; have q1 := hbx.y1; have q2 := hbx.y2; have q3 := hbx.y3; have zf := hbx.zf; have hs4 := hg4.size; clear hg4))
    refine bodyPost_ret (v := .tuple #[.agg #[.int .i64 m.kind, .int .i64 m.frm, .int .i64 m.to, .int .i64 m.trans], .bool true]) (by simp [results, Tryz.results143, go_sem, *]) rfl ⟨rfl, ?_⟩
    have hsz : ((w.alloc (Obj.cells #[Value.int IntKind.i64 0, Value.int IntKind.i64 0, Value.int IntKind.i64 0, Value.int IntKind.i64 0] 109)).alloc (Obj.cells #[Value.int IntKind.i64 m.kind, Value.int IntKind.i64 m.frm, Value.int IntKind.i64 m.to, Value.int IntKind.i64 m.trans] 109)).heap.size = w.heap.size + 2 := by simp
    have ho5 : w4.ownsRow (w.heap.size + 2) 109 4 (.slice sa4 (i + (Y.fv.n - (i + 1))) sc4) (i + (Y.fv.n - (i + 1))) (msgCells (r.fly.eraseIdx i)) := by
      rw [(unhide HX).2.2.2.2]; simpa using ho4
    rw [← hsz] at ho5 hB4
    have hl := (hRep.below hb2).reflown (r.fly.eraseIdx i) hB4 ho5
    refine RLeaves.box hb2 hl (Nat.le_refl _) (by rw [hsz]; omega) (hRep.free (Nat.le_refl _)) ?_
    exact ((((But.refl w.heap.size _).setCell ⟨w.heap.size, 0, none⟩ rfl _).setCell ⟨w.heap.size, 1, none⟩ rfl _).setCell ⟨w.heap.size, 2, none⟩ rfl _).setCell ⟨w.heap.size, 3, none⟩ rfl _
end Go.Proofs.YtekbjlhbjcikdaaGreat
/-
  accordref: walks of Drop, Double, Deliver.
-/
namespace Acc
def RFz (r : RSt) (B : Nat) : Prop := ∀ k, (-1 ≤ (r.nd k).fuse ∧ (r.nd k).fuse < 9223372036854775808) ∧ ((r.nd k).votes).length ≤ B
theorem ROk.z {r : RSt} {B : Nat} (h : ROk r B) : RFz r B := fun k => ⟨h.fz k, h.vl k⟩
theorem ROk.of {r : RSt} {B : Nat} (h : Ok r.st) (z : RFz r B) : ROk r B := ⟨h, fun k => (z k).1, fun k => (z k).2⟩
theorem RFz.setNode {r : RSt} {B : Nat} (h : RFz r B) (i : Nat) (x : RNode) (hx : (-1 ≤ x.fuse ∧ x.fuse < 9223372036854775808) ∧ x.votes.length ≤ B) : RFz (r.setNode i x) B := by
  intro k
  unfold RSt.setNode
  simp only
  split
  · exact hx
  · exact h k
theorem RFz.mono {r : RSt} {B C : Nat} (h : RFz r B) (hc : B ≤ C) : RFz r C := fun k => ⟨(h k).1, Nat.le_trans (h k).2 hc⟩
theorem RFz.does {r : RSt} {B : Nat} (h : RFz r B) (i : Nat) (l : List Deed) : RFz (r.does i l).1 B := by
  induction l generalizing r with
  | nil => exact h
  | cons a l ih =>
    rw [RSt.does_cons]
    split
    · exact h.setNode i _ ⟨⟨by show (-1 : Int) ≤ -1; omega, by show (-1 : Int) < _; omega⟩, Nat.zero_le _⟩
    · refine ih ?_
      have hb : RFz (r.burn i) B := by
        unfold RSt.burn
        split
        · have := h i
          exact h.setNode i _ ⟨⟨by show -1 ≤ (r.nd i).fuse - 1; omega, by show (r.nd i).fuse - 1 < _; omega⟩, this.2⟩
        · exact h
      cases a with
      | wrt t st => exact hb.setNode i _ ⟨(hb i).1, (hb i).2⟩
      | snd m => exact hb
theorem RFz.noteR {r : RSt} {B : Nat} (h : RFz r B) (t p : Nat) : RFz (r.noteR t p) (B + 1) :=
  (h.mono (Nat.le_succ _)).setNode 0 _ ⟨(h 0).1, by have := (h 0).2; simp; omega⟩
theorem RFz.heardR {r : RSt} {B : Nat} (h : RFz r B) (m : Msg) : RFz (r.heardR m) (B + 1) := by
  unfold RSt.heardR
  split
  · exact h.noteR _ _
  · exact h.mono (Nat.le_succ _)
theorem acts_len (s : St) (m : Msg) : (s.acts m).length ≤ 6 := by
  have ha : ∀ t st k, (s.all t st k).length ≤ 6 := by
    intro t st k
    have : (members (s.deal t)).length ≤ 5 := by
      have : ∀ n, (membersTo (s.deal t) n).length ≤ n := by
        intro n
        induction n with
        | zero => simp [membersTo]
        | succ n ih => simp only [membersTo, List.length_append]; split <;> simp <;> omega
      exact this 5
    unfold St.all; simp; omega
  unfold St.acts
  split
  · unfold St.asked; split <;> (try split) <;> (try split) <;> simp
  · split
    · exact ha _ _ _
    · simp
  · split
    · exact ha _ _ _
    · simp
  · split <;> simp
  · split <;> simp
  · unfold St.doubted; split <;> (try split) <;> (try split) <;> simp
  · simp
theorem RSt.heardR_nd (r : RSt) (m : Msg) (n : Nat) : ((r.heardR m).nd n).log = (r.nd n).log ∧ (r.heardR m).parts = r.parts := by
  unfold RSt.heardR
  split
  · exact ⟨RSt.setNode_same r 0 { r.nd 0 with votes := (r.nd 0).votes ++ [(m.trans, m.frm)] } (·.log) rfl n, rfl⟩
  · exact ⟨rfl, rfl⟩
def RSt.dropR (r : RSt) (i : Nat) : RSt := { r with fly := r.fly.eraseIdx i }
theorem RSt.dropR_st (r : RSt) (i : Nat) : (r.dropR i).st = r.st.drop i := rfl
end Acc
namespace Go.Proofs.YtekbjlhbjcikdaaGreat
open Go.RowKit Acc

/-- What a call of the document's world leaves. -/
def ROut (Y : RLay) (w : World) (B : Nat) (s' : St) (w' : World) : Prop := ∃ r', RLeaves Y w r' w' ∧ r'.st = s' ∧ RFz r' B
theorem ROut.same {w w' : World} {Y : RLay} {r : RSt} {B C : Nat} (h : RRep w Y r) (hz : RFz r B) (hc : B ≤ C) (hb : Below w.heap.size w w') : ROut Y w C r.st w' := ⟨r, ⟨Y, ⟨rfl, rfl⟩, h.below hb, Ext.of_below hb⟩, rfl, hz.mono hc⟩

set_option maxRecDepth 100000 in
set_option maxHeartbeats 1000000 in
theorem refTaken_none {w : World} {Y : RLay} {r : RSt} (h : RRep w Y r) (_hfl : r.fly.length ≤ 60) (i : Int) (hi : ¬ (0 ≤ i ∧ i < r.fly.length)) :
    Calls Tryz.prog 143 #[.pointer (some ⟨Y.yb, 0, none⟩), .int .i64 i] w fun e w' => e = .returned (.tuple #[.agg #[.int .i64 0, .int .i64 0, .int .i64 0, .int .i64 0], .bool false]) ∧ Below w.heap.size w w' := by
  have HD := hide (by have := h.om.len; rw [msgCells_length] at this; omega : Y.fv.n = r.fly.length)
  have cf := h.y2
  have hnb := World.block_lt_of_cell? w _ cf
  by_cases h0 : i < 0
  · clear hi
    go_enter Tryz.func143, Tryz.ntmps143
    go_wp2
    exact bodyPost_ret (v := .tuple #[.agg #[.int .i64 0, .int .i64 0, .int .i64 0, .int .i64 0], .bool false]) (by simp [results, Tryz.results143, go_sem]) rfl ⟨rfl, below_alloc _ _⟩
  · have h1 : (Y.fv.n : Int) ≤ i := by rw [unhide HD]; omega
    clear hi
    go_enter Tryz.func143, Tryz.ntmps143
    go_wp2
    exact bodyPost_ret (v := .tuple #[.agg #[.int .i64 0, .int .i64 0, .int .i64 0, .int .i64 0], .bool false]) (by simp [results, Tryz.results143, go_sem]) rfl ⟨rfl, below_alloc _ _⟩

theorem int_nat {i : Int} {n : Nat} (h : 0 ≤ i ∧ i < n) : ∃ j : Nat, i = j ∧ j < n := ⟨i.toNat, by omega, by omega⟩

set_option maxRecDepth 100000 in
set_option maxHeartbeats 1000000 in
theorem refDrop_any {w : World} {Y : RLay} {r : RSt} {B : Nat} (h : RRep w Y r) (hk : ROk r B) (i : Int) :
    Calls Tryz.prog 100 #[.pointer (some ⟨Y.yb, 0, none⟩), .int .i64 i] w fun e w' => e = .returned (.int .i64 ((r.st.dropP i).2 : Nat)) ∧ ROut Y w B (r.st.dropP i).1 w' := by
  have hfl : r.fly.length ≤ 60 := hk.ok.inv.fl
  by_cases h0 : 0 ≤ i ∧ i < r.fly.length
  · have HP := hide (show r.st.dropP i = (r.st.drop i.toNat, 0) from if_pos h0)
    obtain ⟨j, rfl, hj⟩ := int_nat h0
    have hx : r.fly[j]? = some r.fly[j] := List.getElem?_eq_getElem _
    generalize r.fly[j] = m at hx
    have HT := hide (refTaken_any h hfl j m hx)
    clear hx h0
    go_enter Tryz.func100, Tryz.ntmps100
    go_wp2_with fail
    refine (unhide HT).mono ?_
    rintro e w1 ⟨rfl, hl⟩
    go_wp2
    go_ret
    rw [unhide HP]
    exact ⟨rfl, r.dropR j, hl.then_below (below_alloc _ _), by rw [Int.toNat_natCast]; rfl, hk.z⟩
  · have HP := hide (show r.st.dropP i = (r.st, 3) from if_neg h0)
    have HT := hide (refTaken_none h hfl i h0)
    clear h0
    go_enter Tryz.func100, Tryz.ntmps100
    go_wp2_with fail
    refine (unhide HT).mono ?_
    rintro e w1 ⟨rfl, hb⟩
    go_wp2
    go_ret
    rw [unhide HP]
    exact ⟨rfl, ROut.same h hk.z (Nat.le_refl _) (hb.more (below_alloc _ _))⟩

set_option maxRecDepth 100000 in
set_option maxHeartbeats 1000000 in
theorem refDouble_any {w : World} {Y : RLay} {r : RSt} {B : Nat} (h : RRep w Y r) (hk : ROk r B) (i : Int) :
    Calls Tryz.prog 101 #[.pointer (some ⟨Y.yb, 0, none⟩), .int .i64 i] w fun e w' => e = .returned (.int .i64 ((r.st.doubleP i).2 : Nat)) ∧ ROut Y w B (r.st.doubleP i).1 w' := by
  have hfl : r.fly.length ≤ 60 := hk.ok.inv.fl
  have HD := hide (by have := h.om.len; rw [msgCells_length] at this; omega : Y.fv.n = r.fly.length)
  have hdn : Y.fv.n ≤ 60 := by rw [unhide HD]; exact hfl
  have cf := h.y2
  have hnb := World.block_lt_of_cell? w _ cf
  by_cases h0 : 0 ≤ i ∧ i < r.fly.length
  · have hP := show r.st.doubleP i = (r.st.dbl i.toNat, 0) from if_pos h0
    obtain ⟨j, rfl, hj⟩ := int_nat h0
    have hx : r.fly[j]? = some r.fly[j] := List.getElem?_eq_getElem _
    generalize r.fly[j] = m at hx
    have hdb : r.st.dbl ((j : Int)).toNat = r.st.send m := by
      unfold St.dbl
      rw [show r.st.fly = r.fly from rfl, Int.toNat_natCast, hx]
    rw [hdb] at hP
    have HP := hide hP
    have hjn : j < Y.fv.n := by rw [unhide HD]; exact hj
    obtain ⟨g, ha, hcap, hfz, hc⟩ := h.om.at (by omega)
    rw [ha] at cf
    obtain ⟨m0, m1, m2, m3⟩ := msgCells_get r.fly j m hx
    have m0 := hc _ _ m0
    have m1 := hc _ _ m1
    have m2 := hc _ _ m2
    have m3 := hc _ _ m3
    have hgl := World.block_lt_of_cell? w _ m0
    rw [show 4 * j = j * 4 from by omega] at m0 m1 m2 m3
    have HT := hide (refFly_any h m)
    have hi0 : ¬ ((j : Int) < 0) := by omega
    have hiN : ¬ ((Y.fv.n : Int) ≤ (j : Int)) := by omega
    clear hx h0 hj hc ha hP hdb hfz
    go_enter Tryz.func101, Tryz.ntmps101
    go_wp2_with fail
    refine (unhide HT).mono ?_
    rintro e w1 ⟨rfl, hl⟩
    go_wp2
    go_ret
    rw [unhide HP]
    exact ⟨rfl, _, hl, rfl, hk.z⟩
  · have HP := hide (show r.st.doubleP i = (r.st, 3) from if_neg h0)
    by_cases hn : i < 0
    · clear h0
      go_enter Tryz.func101, Tryz.ntmps101
      go_wp2
      go_ret
      rw [unhide HP]
      exact ⟨rfl, ROut.same h hk.z (Nat.le_refl _) (Below.refl _ _)⟩
    · have h1 : (Y.fv.n : Int) ≤ i := by rw [unhide HD]; omega
      clear h0
      go_enter Tryz.func101, Tryz.ntmps101
      go_wp2
      go_ret
      rw [unhide HP]
      exact ⟨rfl, ROut.same h hk.z (Nat.le_refl _) (Below.refl _ _)⟩

set_option maxRecDepth 100000 in
set_option maxHeartbeats 4000000 in
theorem refDeliver_any {w : World} {Y : RLay} {r : RSt} {B : Nat} (h : RRep w Y r) (hk : ROk r B) (hB : B ≤ 8000000) (i : Int) :
    Calls Tryz.prog 99 #[.pointer (some ⟨Y.yb, 0, none⟩), .int .i64 i] w fun e w' => e = .returned (.int .i64 ((r.st.deliverP i).2 : Nat)) ∧ ROut Y w (B + 1) (r.st.deliverP i).1 w' := by
  have hfl : r.fly.length ≤ 60 := hk.ok.inv.fl
  by_cases h0 : 0 ≤ i ∧ i < r.fly.length
  · have hP := show r.st.deliverP i = ((r.st.dlv i.toNat).1, 0) from if_pos h0
    obtain ⟨j, rfl, hj⟩ := int_nat h0
    have hx : r.fly[j]? = some r.fly[j] := List.getElem?_eq_getElem _
    generalize r.fly[j] = m at hx
    have hdb : r.st.dlv ((j : Int)).toNat = r.st.come j m := by
      unfold St.dlv
      rw [show r.st.fly = r.fly from rfl, Int.toNat_natCast, hx]
    rw [hdb] at hP
    have HP := hide hP
    have HT := hide (refTaken_any h hfl j m hx)
    have hm : MsgOk (r.st.drop j) m := hk.ok.inv.msg m (List.mem_of_getElem? hx)
    clear hx h0 hP hdb
    go_enter Tryz.func99, Tryz.ntmps99
    go_wp2_with fail
    refine (unhide HT).mono ?_
    rintro e w1 ⟨rfl, Y1, he1, hR1, hE1⟩
    have hk1 : ROk (r.dropR j) B := ROk.of (hk.ok.drop j) hk.z
    have hR1 : RRep w1 Y1 (r.dropR j) := hR1
    have hto := MsgOk.to_le hk1.ok.inv hm
    have hto' : m.to ≤ r.parts := hto
    have hp5 := hk.wf.p5
    have hbx := below_alloc w1 (Obj.cells #[.int .i64 m.kind, .int .i64 m.frm, .int .i64 m.to, .int .i64 m.trans] 109)
    have hR2 := hR1.below hbx
    have y0 := hR2.y0
    have n0 := hR2.n0 m.to hto
    have hac := hR2.ac
    rw [he1.1, he1.2] at y0
    rw [he1.2] at n0
    have hpp : (r.dropR j).parts = r.parts := rfl
    rw [hpp] at y0 hac
    have hnd : (r.dropR j).nd m.to = r.nd m.to := rfl
    rw [hnd] at n0
    have x0 : (w1.alloc (Obj.cells #[.int .i64 m.kind, .int .i64 m.frm, .int .i64 m.to, .int .i64 m.trans] 109)).cell? ⟨w1.heap.size, 0, none⟩ = some (.int .i64 m.kind) := by simp [go_sem]
    have x1 : (w1.alloc (Obj.cells #[.int .i64 m.kind, .int .i64 m.frm, .int .i64 m.to, .int .i64 m.trans] 109)).cell? ⟨w1.heap.size, 1, none⟩ = some (.int .i64 m.frm) := by simp [go_sem]
    have x2 : (w1.alloc (Obj.cells #[.int .i64 m.kind, .int .i64 m.frm, .int .i64 m.to, .int .i64 m.trans] 109)).cell? ⟨w1.heap.size, 2, none⟩ = some (.int .i64 m.to) := by simp [go_sem]
    have x3 : (w1.alloc (Obj.cells #[.int .i64 m.kind, .int .i64 m.frm, .int .i64 m.to, .int .i64 m.trans] 109)).cell? ⟨w1.heap.size, 3, none⟩ = some (.int .i64 m.trans) := by simp [go_sem]
    have hfree : Y1.own w1.heap.size = none := hR1.free (Nat.le_refl _)
    have htp : (m.to : Int) < (r.parts : Int) + 1 := by omega
    cases hup : (r.nd m.to).up with
    | false =>
      rw [hup] at n0
      have HC := hide (show r.st.come j m = (r.st.drop j, true) from by unfold St.come; rw [if_neg (by show ¬ (r.nd m.to).up = true; simp [hup])])
      clear hup HT
      go_wp2_with fail
      generalize w1.alloc (Obj.cells #[.int .i64 m.kind, .int .i64 m.frm, .int .i64 m.to, .int .i64 m.trans] 109) = wB at *
      go_region
      go_wp2
      go_ret
      rw [unhide HP, unhide HC]
      exact ⟨rfl, r.dropR j, ⟨Y1, he1, hR2.below (Below.refl _ _).drew, hE1.trans (Ext.of_below hbx.drew)⟩, rfl, hk.z.mono (Nat.le_succ _)⟩
    | true =>
      rw [hup] at n0
      have HC := hide (show r.st.come j m = (r.st.drop j).recv m from by unfold St.come; rw [if_pos (by show (r.nd m.to).up = true; exact hup)])
      clear hup HT
      go_wp2_with fail
      generalize w1.alloc (Obj.cells #[.int .i64 m.kind, .int .i64 m.frm, .int .i64 m.to, .int .i64 m.trans] 109) = wB at *
      go_region
      go_wp2_with fail
      have hE2 := hE1.trans (Ext.of_below hbx)
      have hac := hide (fun W (hb : Below wB.heap.size wB W) => refActs_any (hR2.below hb) hk1 (by omega) m hm (((r.st.drop j).heard m).acts m) rfl)
      rw [he1.1] at hac
      have HDO := hide (fun W Y2 (a : Option Addr) (cap : Nat) (hRa : RRep W Y2 ((r.dropR j).heardR m)) (ho : Owns W 173 7 ⟨a, (((r.st.drop j).heard m).acts m).length, cap⟩ (actCells (((r.st.drop j).heard m).acts m))) (hfr : ∀ x, a = some x → Y2.own x.block = none) => refDoes_any hRa m.to (by rw [((r.dropR j).heardR_nd m 0).2]; exact hto) (by rw [((r.dropR j).heardR_nd m 0).2]; exact hp5) _ a cap ho hfr (by
        rw [((r.dropR j).heardR_nd m m.to).1]
        have h1 : ((r.dropR j).st.log m.to).length ≤ 24 := hk1.ok.inv.len m.to
        have h1 : (((r.dropR j).nd m.to).log).length ≤ 24 := h1
        have h2 := acts_len ((r.st.drop j).heard m) m
        omega) (fun k => (hk1.z.heardR m k).1))
      have hst : (((r.dropR j).heardR m).does m.to (((r.st.drop j).heard m).acts m)).1.st = ((r.st.drop j).recv m).1 := by
        have := RSt.does_st ((r.dropR j).heardR m) m.to (((r.st.drop j).heard m).acts m)
        rw [RSt.heardR_st, RSt.dropR_st] at this
        exact congrArg Prod.fst this
      have HFI := hide (And.intro hst ((hk1.z.heardR m).does m.to (((r.st.drop j).heard m).acts m)))
      have hwl := World.block_lt_of_cell? wB _ x2
      clear hst y0 n0
      generalize ((r.st.drop j).heard m).acts m = l at *
      go_region_law (first
        | (go_simp; go_at_call 144; refine (unhide hac _ (by exact (Below.refl _ _).drew.drew)).mono ?_; rintro e w2 ⟨Y2, oa, oc, rfl, hea, hRa, hEa, hoa, hfa⟩; have x2a := (World.cell?_of_block (a := ⟨w1.heap.size, 2, none⟩) (hEa.keep w1.heap.size (by exact hwl) hfree).1).trans x2; have hdo := unhide HDO _ Y2 oa oc hRa hoa hfa; rw [hea.1, he1.1] at hdo; have HDD := hide hdo; clear hdo)
        | (go_simp; go_at_call 141; refine (unhide HDD).mono ?_; rintro e w3 ⟨rfl, hl3⟩))
      all_goals
        have hfin : RLeaves Y w (((r.dropR j).heardR m).does m.to l).1 w3 := RLeaves.trans he1 hE2 (RLeaves.below (Below.refl _ _).drew.drew (RLeaves.trans hea hEa hl3))
        go_wp2
        go_ret
        rw [unhide HP, unhide HC]
        exact ⟨rfl, _, hfin, (unhide HFI).1, (unhide HFI).2⟩
  · have HP := hide (show r.st.deliverP i = (r.st, 3) from if_neg h0)
    have HT := hide (refTaken_none h hfl i h0)
    clear h0
    go_enter Tryz.func99, Tryz.ntmps99
    go_wp2_with fail
    refine (unhide HT).mono ?_
    rintro e w1 ⟨rfl, hb⟩
    go_wp2
    go_ret
    rw [unhide HP]
    exact ⟨rfl, ROut.same h hk.z (Nat.le_succ _) (hb.more (below_alloc _ _))⟩
end Go.Proofs.YtekbjlhbjcikdaaGreat
/-
  accordref: walks of undecided, Crash, Fuse, Recover.
-/
namespace Acc
theorem RSt.does_trans (r : RSt) (i : Nat) (l : List Deed) : (r.does i l).1.trans = r.trans := by
  induction l generalizing r with
  | nil => rfl
  | cons a l ih =>
    rw [RSt.does_cons]
    split
    · rfl
    · rw [ih]
      have h1 : (r.burn i).trans = r.trans := by unfold RSt.burn; split <;> rfl
      cases a <;> exact h1
theorem RSt.does_st1 (r : RSt) (i : Nat) (l : List Deed) : (r.does i l).1.st = (r.st.does i l).1 := congrArg Prod.fst (RSt.does_st r i l)
theorem RSt.does_st2 (r : RSt) (i : Nat) (l : List Deed) : (r.does i l).2 = (r.st.does i l).2 := congrArg Prod.snd (RSt.does_st r i l)
theorem all_len (s : St) (t st k : Nat) : (s.all t st k).length ≤ 6 := by
  have : (members (s.deal t)).length ≤ 5 := by
    have : ∀ n, (membersTo (s.deal t) n).length ≤ n := by
      intro n
      induction n with
      | zero => simp [membersTo]
      | succ n ih => simp only [membersTo, List.length_append]; split <;> simp <;> omega
    exact this 5
  unfold St.all; simp; omega
end Acc
namespace Go.Proofs.YtekbjlhbjcikdaaGreat
open Go.RowKit Acc

theorem RLeaves.keep_own {Y : RLay} {w w' : World} {r : RSt} (h : RLeaves Y w r w') : ∃ Y', (Y'.yb = Y.yb ∧ Y'.ab = Y.ab) ∧ RRep w' Y' r ∧ Ext Y.own w Y'.own w' := h
/-- does, behind a list of acts that was just made. -/
theorem refDoes_out {w w1 : World} {Y : RLay} {r : RSt} {B : Nat} (h : RRep w Y r) (hk : ROk r B) (n : Nat) (hn : n ≤ r.parts) (l : List Deed) (hl : l.length ≤ 100) (a : Option Addr) (cap : Nat) (hb : Below w.heap.size w w1) (ho : w1.ownsRow w.heap.size 173 7 (.slice a l.length cap) l.length (actCells l)) :
    Calls Tryz.prog 141 #[.pointer (some ⟨Y.yb, 0, none⟩), .int .i64 n, .slice a l.length cap] w1 fun e w' => e = .returned (.bool (r.does n l).2) ∧ RLeaves Y w (r.does n l).1 w' := by
  refine (refDoes_any (h.below hb) n hn hk.wf.p5 l a cap (ownsRow_mono ho (Nat.zero_le _)) (fun x hx => h.free (ho.lt x.block (by rw [hx]; rfl)).1) ?_ hk.fz).mono ?_
  · have : (r.st.log n).length ≤ 24 := hk.ok.inv.len n
    have : ((r.nd n).log).length ≤ 24 := this
    omega
  · rintro e w2 ⟨rfl, hl2⟩
    exact ⟨rfl, RLeaves.below hb hl2⟩

set_option maxRecDepth 100000 in
set_option maxHeartbeats 4000000 in
theorem refUndecided_any {w : World} {Y : RLay} {r : RSt} {B : Nat} (h : RRep w Y r) (hk : ROk r B) :
    Calls Tryz.prog 147 #[.pointer (some ⟨Y.yb, 0, none⟩)] w fun e w' => e = .returned (.tuple #[]) ∧ ROut Y w B r.st.giveAll.1 w' := by
  have h12 := hk.wf.d12
  go_enter Tryz.func147, Tryz.ntmps147
  go_wp2_with fail
  go_loopw [2] (fun i wr => ∃ j : Nat, j ≤ r.trans.length ∧ i = .int .i64 ((j : Int) + 1) ∧ ∃ rj, Hid (r.st.giveAll = rj.st.giveFrom (r.trans.length - j) (j + 1)) ∧ ROk rj B ∧ Hid (rj.trans = r.trans) ∧ RLeaves Y w rj wr) (fun i _ => (13 - intOf i).toNat)
  case atStart => exact ⟨0, Nat.zero_le _, rfl, r, hide rfl, hk, hide rfl, Y, ⟨rfl, rfl⟩, h, Ext.refl _ _⟩
  case round =>
    obtain ⟨j, hj, rfl, rj, hg, hkj, hdj, Y1, he, hR, hE⟩ := hrel
    have y1 := hR.y1
    rw [he.1] at y1
    have HD := hide (by have := hR.od.len; rw [slCells_length] at this; rw [← unhide hdj]; omega : Y1.dv.n = r.trans.length)
    have hdn : Y1.dv.n ≤ 12 := by rw [unhide HD]; exact h12
    by_cases hlt : j < r.trans.length
    · have hlt' : j < Y1.dv.n := by rw [unhide HD]; exact hlt
      have hst : r.st.giveAll = andThen (if rj.st.state 0 (j + 1) = 1 then rj.st.does 0 (rj.st.all (j + 1) 4 5) else (rj.st, true)) fun s' => s'.giveFrom (r.trans.length - (j + 1)) (j + 1 + 1) := by
        rw [unhide hg, show r.trans.length - j = (r.trans.length - (j + 1)) + 1 from by omega]; rfl
      have HS := hide hst
      have hsa := refState_any hR hkj.wf 0 (j + 1) (Nat.zero_le _)
      rw [he.1] at hsa
      have HSA := hide hsa
      have hgu := refAll_any hR hkj.wf hkj.ok.inv (j + 1) 4 5 (by omega) (by rw [unhide hdj]; omega)
      rw [he.1] at hgu
      have HGU := hide hgu
      have HDO := hide (fun w1 (a : Option Addr) (cap : Nat) hb ho => refDoes_out (w1 := w1) hR hkj 0 (Nat.zero_le _) (rj.st.all (j + 1) 4 5) (by have := all_len rj.st (j + 1) 4 5; omega) a cap hb ho)
      rw [he.1] at HDO
      have HLT := hide hlt
      clear hst hsa hgu hg hlt hj
      go_wp2_with fail
      rw [show ((j : Int) + 1) = ((j + 1 : Nat) : Int) from by omega]
      refine (unhide HSA).mono ?_
      rintro e w1 ⟨rfl, rfl⟩
      by_cases h1 : rj.st.state 0 (j + 1) = 1
      · have q1 : ((rj.st.state 0 (j + 1) : Int) != 1) = false := by rw [h1]; rfl
        have HQ := hide h1
        clear h1
        go_wp2_with fail
        rw [show ((j : Int) + 1) = ((j + 1 : Nat) : Int) from by omega]
        refine (unhide HGU).mono ?_
        rintro e w2 ⟨oa, oc, rfl, hb2, ho2⟩
        have hdo := hide (unhide HDO w2 oa oc hb2 ho2)
        clear HDO
        go_wp2_with fail
        refine (unhide hdo).mono ?_
        rintro e w3 ⟨rfl, hl3⟩
        have hko : Ok ((rj.does 0 (rj.st.all (j + 1) 4 5)).1).st := by
          rw [RSt.does_st1]
          exact hkj.ok.of (hkj.ok.inv.aborted (j + 1) ((hkj.ok.inv.h1).1 (unhide HQ)).2) (does_deals _ _ _).1
        have hdd : (rj.does 0 (rj.st.all (j + 1) 4 5)).1.trans = r.trans := (RSt.does_trans _ _ _).trans (unhide hdj)
        have hz := hkj.z.does 0 (rj.st.all (j + 1) 4 5)
        have hs1 := RSt.does_st1 rj 0 (rj.st.all (j + 1) 4 5)
        have hs2 := RSt.does_st2 rj 0 (rj.st.all (j + 1) 4 5)
        have hSS := unhide HS
        rw [if_pos (unhide HQ)] at hSS
        have hl4 := RLeaves.trans he hE hl3
        cases hb : (rj.does 0 (rj.st.all (j + 1) 4 5)).2 with
        | true =>
          rw [andThen_true (by rw [← hs2, hb]), ← hs1] at hSS
          have HSS := hide hSS
          have HDD := hide hdd
          clear hSS hdd hb hs1 hs2 HS
          go_wp2
          have := unhide HLT
          exact ⟨⟨j + 1, by omega, by go_num, _, HSS, ROk.of hko hz, HDD, hl4⟩, by simp [intOf]; omega⟩
        | false =>
          rw [andThen_false (by rw [← hs2, hb]), ← hs1] at hSS
          have HSS := hide hSS
          clear hSS hdd hb hs1 hs2 HS
          go_wp2
          refine bodyPost_ret (results_none rfl _ _ _) rfl ?_
          exact ⟨rfl, _, hl4, by rw [unhide HSS], hz⟩
      · have q1 : ((rj.st.state 0 (j + 1) : Int) != 1) = true := by simp; omega
        have hs2 := unhide HS
        rw [if_neg h1, andThen_true rfl] at hs2
        have HS2 := hide hs2
        clear h1 hs2
        go_wp2
        have := unhide HLT
        exact ⟨⟨j + 1, by omega, by go_num, rj, HS2, hkj, hdj, Y1, he, hR, hE⟩, by simp [intOf]; omega⟩
    · have hlt' : ¬ j < Y1.dv.n := by rw [unhide HD]; exact hlt
      have hfin : r.st.giveAll = (rj.st, true) := by rw [unhide hg, show r.trans.length - j = 0 from by omega]; rfl
      have HF := hide hfin
      clear hfin hg
      go_wp2
      go_end0
      exact ⟨rfl, rj, ⟨Y1, he, hR, hE⟩, by rw [unhide HF], hkj.z⟩

theorem refIs_yes {w : World} {Y : RLay} {r : RSt} (h : RRep w Y r) (hf : RWf r) (n : Nat) (hn : n ≤ r.parts) :
    Calls Tryz.prog 146 #[.pointer (some ⟨Y.yb, 0, none⟩), .int .i64 n] w fun e w' => e = .returned (.bool true) ∧ w' = w := by
  refine (refIs_any h hf n).mono ?_
  rintro e w1 ⟨rfl, rfl⟩
  exact ⟨by rw [show (decide (0 ≤ (n : Int)) && decide ((n : Int) < r.parts + 1)) = true from by simp; omega], rfl⟩
theorem refIs_no {w : World} {Y : RLay} {r : RSt} (h : RRep w Y r) (hf : RWf r) (p : Int) (hn : ¬ (0 ≤ p ∧ p ≤ r.parts)) :
    Calls Tryz.prog 146 #[.pointer (some ⟨Y.yb, 0, none⟩), .int .i64 p] w fun e w' => e = .returned (.bool false) ∧ w' = w := by
  refine (refIs_any h hf p).mono ?_
  rintro e w1 ⟨rfl, rfl⟩
  exact ⟨by rw [show (decide (0 ≤ p) && decide (p < r.parts + 1)) = false from by simp; omega], rfl⟩
theorem nat_le {i : Int} {n : Nat} (h : 0 ≤ i ∧ i ≤ n) : ∃ j : Nat, i = j ∧ j ≤ n := ⟨i.toNat, by omega, by omega⟩
theorem _root_.Acc.RSt.nodeE_no (r : RSt) (p : Int) (u : Bool) (h : ¬ (0 ≤ p ∧ p ≤ r.parts)) : r.st.nodeE p u = 1 := if_neg h
theorem _root_.Acc.RSt.nodeE_at (r : RSt) (n : Nat) (u : Bool) (h : n ≤ r.parts) : r.st.nodeE n u = if (r.nd n).up = u then 0 else 2 := by
  unfold St.nodeE
  rw [if_pos ⟨by omega, by show (n : Int) ≤ (r.parts : Int); omega⟩, Int.toNat_natCast]
  rfl

set_option maxRecDepth 100000 in
set_option maxHeartbeats 1000000 in
theorem refCrash_any {w : World} {Y : RLay} {r : RSt} {B : Nat} (h : RRep w Y r) (hk : ROk r B) (i : Int) :
    Calls Tryz.prog 103 #[.pointer (some ⟨Y.yb, 0, none⟩), .int .i64 i] w fun e w' => e = .returned (.int .i64 ((r.st.crashP i).2 : Nat)) ∧ ROut Y w B (r.st.crashP i).1 w' := by
  have hp5 := hk.wf.p5
  by_cases h0 : 0 ≤ i ∧ i ≤ r.parts
  · obtain ⟨n, rfl, hn⟩ := nat_le h0
    have HI := hide (refIs_yes h hk.wf n hn)
    have y0 := h.y0
    have n0 := h.n0 n hn
    have hac := h.ac
    have hnp : (n : Int) < (r.parts : Int) + 1 := by omega
    cases hu : (r.nd n).up with
    | true =>
      have HP : Hid (r.st.crashP n = (r.st.down n, 0)) := by
        show _ = _
        unfold St.crashP
        rw [if_pos (by rw [r.nodeE_at n true hn, if_pos hu]), Int.toNat_natCast]
      have HD := hide (refDown_any h n hn hp5)
      rw [hu] at n0
      clear hu h0
      go_enter Tryz.func103, Tryz.ntmps103
      go_wp2_with fail
      refine (unhide HI).mono ?_
      rintro e w1 ⟨rfl, rfl⟩
      go_wp2_with fail
      refine (unhide HD).mono ?_
      rintro e w2 ⟨rfl, hl⟩
      go_wp2
      go_ret
      rw [unhide HP]
      exact ⟨rfl, _, hl, RSt.down_st r n, hk.z.setNode n _ ⟨⟨by show (-1 : Int) ≤ -1; omega, by show (-1 : Int) < _; omega⟩, Nat.zero_le _⟩⟩
    | false =>
      have HP : Hid (r.st.crashP n = (r.st, 2)) := by
        show _ = _
        unfold St.crashP
        have : r.st.nodeE n true = 2 := by rw [r.nodeE_at n true hn, if_neg (by simp [hu])]
        rw [this, if_neg (by omega)]
      rw [hu] at n0
      clear hu h0
      go_enter Tryz.func103, Tryz.ntmps103
      go_wp2_with fail
      refine (unhide HI).mono ?_
      rintro e w1 ⟨rfl, rfl⟩
      go_wp2
      go_ret
      rw [unhide HP]
      exact ⟨rfl, ROut.same h hk.z (Nat.le_refl _) (Below.refl _ _)⟩
  · have HI := hide (refIs_no h hk.wf i h0)
    have HP : Hid (r.st.crashP i = (r.st, 1)) := by
      show _ = _
      unfold St.crashP
      rw [r.nodeE_no i true h0, if_neg (by omega)]
    clear h0
    go_enter Tryz.func103, Tryz.ntmps103
    go_wp2_with fail
    refine (unhide HI).mono ?_
    rintro e w1 ⟨rfl, rfl⟩
    go_wp2
    go_ret
    rw [unhide HP]
    exact ⟨rfl, ROut.same h hk.z (Nat.le_refl _) (Below.refl _ _)⟩
end Go.Proofs.YtekbjlhbjcikdaaGreat
/-
  accordref: walk of fit.
-/
namespace Acc
theorem findI_neg (l : List Wr) (p k : Int) (i : Int) (h : ∀ x, x ∈ l → ¬ (x.part = p ∧ x.key = k)) : findI l p k i < 0 := by
  induction l generalizing i with
  | nil => simp [findI]
  | cons a r ih =>
    unfold findI
    rw [if_neg (h a (List.mem_cons_self ..))]
    exact ih _ (fun x hx => h x (List.mem_cons_of_mem _ hx))
end Acc
namespace Go.Proofs.YtekbjlhbjcikdaaGreat
open Go.RowKit Acc

set_option maxRecDepth 100000 in
set_option maxHeartbeats 2000000 in
theorem refFit_any {w : World} {Y : RLay} {r : RSt} (h : RRep w Y r) (_hp5 : r.parts ≤ 5) (a : Option Addr) (n cap : Nat) (ws : List Wr) (hn : ws.length = n) (hm : n ≤ maxLen) (_hc : n ≤ cap) (hw : WrAt w a ws) :
    Calls Tryz.prog 140 #[.pointer (some ⟨Y.yb, 0, none⟩), .slice a n cap] w fun e w' => e = .returned (.bool (soundB ws r.parts)) ∧ Below w.heap.size w w' := by
  have HN : Hid (ws.length = n) := hn
  clear hn
  unfold maxLen at hm
  by_cases h1 : n < 1
  · have HB : Hid (soundB ws r.parts = false) := by show _ = _; simp [soundB, HN.out]; omega
    go_enter Tryz.func140, Tryz.ntmps140
    go_wp2
    go_ret
    exact ⟨by rw [HB.out]; rfl, Below.refl _ _⟩
  by_cases h2 : 6 < n
  · have HB : Hid (soundB ws r.parts = false) := by show _ = _; simp [soundB, HN.out]; omega
    go_enter Tryz.func140, Tryz.ntmps140
    go_wp2
    go_ret
    exact ⟨by rw [HB.out]; rfl, Below.refl _ _⟩
  have y0 := h.y0
  have hyl := World.block_lt_of_cell? w _ y0
  go_enter Tryz.func140, Tryz.ntmps140
  go_wp2
  go_loopw [5] (fun i wr => ∃ j : Nat, j ≤ n ∧ i = .int .i64 j ∧ Below w.heap.size w wr ∧ Hid (∀ k, k < j → okAt ws r.parts k = true)) (fun i _ => n - (intOf i).toNat)
  case atStart => exact ⟨0, by omega, rfl, Below.refl _ _, by intro k hk; omega⟩
  case round =>
    obtain ⟨j, hj, rfl, hb, hf⟩ := hrel
    have y0' := (hb.cell (p := ⟨Y.yb, 0, none⟩) hyl).trans y0
    by_cases hlt : j < n
    · have hx : ws[j]? = some (ws[j]'(by rw [HN.out]; exact hlt)) := List.getElem?_eq_getElem _
      generalize ws[j]'(by rw [HN.out]; exact hlt) = x at hx
      have hd : okAt ws r.parts j = (decide (1 ≤ x.part) && decide (x.part ≤ r.parts) && decide (0 ≤ x.key) && decide (x.key < 4) && decide (findI (ws.take j) x.part x.key 0 < 0)) := by simp [okAt, hx]
      have hw' := hw.below hb
      rcases hw' with h | ⟨g, o, ha, hg, hcl⟩
      · simp [h] at hx
      · subst ha
        obtain ⟨c0, c1, c2⟩ := hcl j x hx
        have HCL := hide hcl
        clear hcl hx
        have HD : Hid _ := hd
        clear hd
        have hji : (j : Int) < (n : Int) := by omega
        by_cases q1 : x.part < 1
        · have HB : Hid (soundB ws r.parts = false) := soundB_false (by rw [HN.out]; exact hlt) (by rw [HD.out]; simp; omega)
          go_wp2_with fail
          go_region
          go_wp2
          go_ret
          exact ⟨by rw [HB.out]; rfl, hb.drew⟩
        have d1 : decide (x.part < 1) = false := by simp; omega
        by_cases q2 : (r.parts : Int) + 1 ≤ x.part
        · have d2 : decide ((r.parts : Int) + 1 ≤ x.part) = true := by simp; omega
          have HB : Hid (soundB ws r.parts = false) := soundB_false (by rw [HN.out]; exact hlt) (by rw [HD.out]; simp; omega)
          go_wp2_with fail
          clear q1 q2
          go_region
          go_wp2
          go_ret
          exact ⟨by rw [HB.out]; rfl, hb.drew⟩
        have d2 : decide ((r.parts : Int) + 1 ≤ x.part) = false := by simp; omega
        by_cases q3 : x.key < 0
        · have d3 : decide (x.key < 0) = true := by simp; omega
          have HB : Hid (soundB ws r.parts = false) := soundB_false (by rw [HN.out]; exact hlt) (by rw [HD.out]; simp; omega)
          go_wp2_with fail
          clear q1 q2 q3
          go_region
          go_wp2
          go_ret
          exact ⟨by rw [HB.out]; rfl, hb.drew⟩
        have d3 : decide (x.key < 0) = false := by simp; omega
        by_cases q4 : 4 ≤ x.key
        · have d4 : decide (4 ≤ x.key) = true := by simp; omega
          have HB : Hid (soundB ws r.parts = false) := soundB_false (by rw [HN.out]; exact hlt) (by rw [HD.out]; simp; omega)
          go_wp2_with fail
          clear q1 q2 q3 q4
          go_region
          go_wp2
          go_ret
          exact ⟨by rw [HB.out]; rfl, hb.drew⟩
        have d4 : decide (4 ≤ x.key) = false := by simp; omega
        have HQ := hide (And.intro q1 (And.intro q2 (And.intro q3 q4)))
        go_wp2_with fail
        clear q1 q2 q3 q4
        go_region
        go_wp2_with fail
        clear d1 d2 d3 d4 y0'
        have HC0 := hide (fun wq (hbq : Below wr.heap.size wr wq) => And.intro ((hbq.cell (p := ⟨g, o + j * 3, none⟩) hg).trans c0) ((hbq.cell (p := ⟨g, o + j * 3 + 1, none⟩) hg).trans c1))
        have HCQ := hide (fun wq (hbq : Below wr.heap.size wr wq) (q : Nat) (z : Wr) (hz : ws[q]? = some z) => And.intro ((hbq.cell (p := ⟨g, o + q * 3, none⟩) hg).trans (unhide HCL q z hz).1) ((hbq.cell (p := ⟨g, o + q * 3 + 1, none⟩) hg).trans (unhide HCL q z hz).2.1))
        clear c0 c1 c2
        go_loopw [6] (fun i wq => ∃ q : Nat, q ≤ j ∧ i = .int .i64 (q : Int) ∧ Below wr.heap.size wr wq ∧ Hid (∀ z, z ∈ ws.take q → ¬ (z.part = x.part ∧ z.key = x.key))) (fun i _ => j - (intOf i).toNat)
        case atStart => exact ⟨0, Nat.zero_le _, rfl, (Below.refl _ _).drew, by intro z hz; simp at hz⟩
        case round =>
          rename World => wx
          obtain ⟨q, hq, rfl, hbq, hno⟩ := hrel
          by_cases hqj : q < j
          · have hzq : ws[q]? = some (ws[q]'(by rw [HN.out]; omega)) := List.getElem?_eq_getElem _
            generalize ws[q]'(by rw [HN.out]; omega) = z at hzq
            obtain ⟨c0, c1⟩ := unhide HC0 wx hbq
            obtain ⟨z0, z1⟩ := unhide HCQ wx hbq q z hzq
            have HZ := hide hzq
            have hqi : (q : Int) < (n : Int) := by omega
            clear hzq
            by_cases e1 : z.part = x.part
            · have b1 : (z.part == x.part) = true := by simpa using e1
              by_cases e2 : z.key = x.key
              · have b2 : (z.key == x.key) = true := by simpa using e2
                have HB : Hid (soundB ws r.parts = false) := soundB_false (by rw [HN.out]; exact hlt) (by
                  rw [HD.out]
                  have hmem : z ∈ ws.take j := List.mem_of_getElem? (by rw [List.getElem?_take, if_pos hqj]; exact unhide HZ)
                  have : ¬ findI (ws.take j) x.part x.key 0 < 0 := fun hh => findI_none _ _ _ _ (by omega) hh z hmem ⟨e1, e2⟩
                  simp [this])
                clear e1 e2
                go_wp2_with fail
                go_region
                go_wp2
                go_ret
                exact ⟨by rw [HB.out]; rfl, (hb.more hbq).drew⟩
              · have b2 : (z.key == x.key) = false := by simpa using e2
                have HNO : Hid (∀ y, y ∈ ws.take (q + 1) → ¬ (y.part = x.part ∧ y.key = x.key)) := by
                  intro y hy
                  rw [List.take_add_one, unhide HZ] at hy
                  rcases List.mem_append.1 hy with hy | hy
                  · exact unhide hno y hy
                  · simp at hy; subst hy; exact fun hh => e2 hh.2
                clear e1 e2
                go_wp2_with fail
                go_region
                go_wp2
                exact ⟨⟨q + 1, by omega, by go_num, hbq.drew, HNO⟩, by simp [intOf]; omega⟩
            · have b1 : (z.part == x.part) = false := by simpa using e1
              have HNO : Hid (∀ y, y ∈ ws.take (q + 1) → ¬ (y.part = x.part ∧ y.key = x.key)) := by
                intro y hy
                rw [List.take_add_one, unhide HZ] at hy
                rcases List.mem_append.1 hy with hy | hy
                · exact unhide hno y hy
                · simp at hy; subst hy; exact fun hh => e1 hh.1
              clear e1
              go_wp2_with fail
              go_region
              go_wp2
              exact ⟨⟨q + 1, by omega, by go_num, hbq.drew, HNO⟩, by simp [intOf]; omega⟩
          · have hqe : q = j := by omega
            subst hqe
            have HF : Hid (okAt ws r.parts q = true) := by
              show _ = _
              rw [HD.out]
              have h4 := unhide HQ
              have h5 := findI_neg (ws.take q) x.part x.key 0 (unhide hno)
              simp [h5]; omega
            go_wp2
            refine ⟨⟨q + 1, by omega, by go_num, hb.more hbq, ?_⟩, by simp [intOf]; omega⟩
            intro k hk
            by_cases hkj : k = q
            · rw [hkj]; exact HF.out
            · exact hf.out k (by omega)
    · have HB : Hid (soundB ws r.parts = true) := by
        show _ = _
        have h : (List.range ws.length).all (okAt ws r.parts) = true := by
          rw [List.all_eq_true]; intro k hk; exact hf.out k (by rw [HN.out] at hk; simp at hk; omega)
        unfold soundB
        rw [h, HN.out]
        simp
        omega
      go_wp2
      go_ret
      refine ⟨?_, hb⟩
      rw [HB.out]; rfl
end Go.Proofs.YtekbjlhbjcikdaaGreat
/-
  accordref: walk of New.
-/
namespace Acc
def RSt.new (p : Nat) : RSt := ⟨p, fun _ => ⟨true, -1, [], []⟩, [], []⟩
theorem RSt.new_st (p : Nat) : (RSt.new p).st = St.new p := rfl
theorem RFz.new (p : Nat) : RFz (RSt.new p) 0 := fun _ => ⟨⟨by show (-1 : Int) ≤ -1; omega, by show (-1 : Int) < _; omega⟩, Nat.le_refl _⟩
end Acc
namespace Go.Proofs.YtekbjlhbjcikdaaGreat
open Go.RowKit Acc

theorem Tryz.infoRNode : (Tryz.prog.info? 142).map (fun i => (i.zero, i.size, i.bytes)) = some (some (.agg #[.bool false, .int .i64 0, .slice none 0 0, .slice none 0 0]), 4, 64) := by kernel_rfl
def nodeCells : Nat → List Value
  | 0 => []
  | n + 1 => nodeCells n ++ [.bool true, .int .i64 (-1), .slice none 0 0, .slice none 0 0]
theorem nodeCells_length (n : Nat) : (nodeCells n).length = n * 4 := by
  induction n with
  | zero => rfl
  | succ n ih => simp [nodeCells, ih]; omega
theorem nodeCells_get (n i : Nat) (h : i < n) : (nodeCells n)[i * 4]? = some (.bool true) ∧ (nodeCells n)[i * 4 + 1]? = some (.int .i64 (-1)) ∧ (nodeCells n)[i * 4 + 2]? = some (.slice none 0 0) ∧ (nodeCells n)[i * 4 + 3]? = some (.slice none 0 0) := by
  induction n with
  | zero => omega
  | succ n ih =>
    by_cases hi : i < n
    · have := ih hi
      simp only [nodeCells]
      rw [List.getElem?_append_left (by rw [nodeCells_length]; omega), List.getElem?_append_left (by rw [nodeCells_length]; omega), List.getElem?_append_left (by rw [nodeCells_length]; omega), List.getElem?_append_left (by rw [nodeCells_length]; omega)]
      exact this
    · have : i = n := by omega
      subst this
      simp only [nodeCells]
      rw [List.getElem?_append_right (by rw [nodeCells_length]; omega), List.getElem?_append_right (by rw [nodeCells_length]; omega), List.getElem?_append_right (by rw [nodeCells_length]; omega), List.getElem?_append_right (by rw [nodeCells_length]; omega), nodeCells_length]
      rw [show i * 4 - i * 4 = 0 from by omega, show i * 4 + 1 - i * 4 = 1 from by omega, show i * 4 + 2 - i * 4 = 2 from by omega, show i * 4 + 3 - i * 4 = 3 from by omega]
      exact ⟨rfl, rfl, rfl, rfl⟩

theorem Owns.own_ne {w : World} {e size : Nat} {s : Sl} {xs : List Value} {b : Nat} (_ : Owns w e size s xs) (h : ∀ a, s.a = some a → b < a.block) (hb : some b = (Value.slice s.a s.n s.cap).ownBlock) : False := by
  obtain ⟨a, n, c⟩ := s
  cases a with
  | none => simp [Value.ownBlock] at hb
  | some a => simp only [Value.ownBlock, Option.some.injEq] at hb; have := h a rfl; omega
theorem Owns.own_le {w : World} {e size : Nat} {s : Sl} {xs : List Value} {b k : Nat} (_ : Owns w e size s xs) (h : ∀ a, s.a = some a → b < a.block) (hb : (Value.slice s.a s.n s.cap).ownBlock = some k) : b < k := by
  obtain ⟨a, n, c⟩ := s
  cases a with
  | none => simp [Value.ownBlock] at hb
  | some a => simp only [Value.ownBlock, Option.some.injEq] at hb; have := h a rfl; omega
/-- What New's loop keeps. -/
structure NewK (w wr : World) (j : Nat) : Prop where
  bl : Below w.heap.size w wr
  sz : w.heap.size < wr.heap.size
  own : ∃ s : Sl, s.n = j ∧ wr.cell? ⟨w.heap.size, 0, none⟩ = some (.slice s.a s.n s.cap) ∧ Owns wr 142 4 s (nodeCells j) ∧ ∀ a, s.a = some a → w.heap.size < a.block
  c1 : wr.cell? ⟨w.heap.size, 1, none⟩ = some (.slice none 0 0)
  c2 : wr.cell? ⟨w.heap.size, 2, none⟩ = some (.slice none 0 0)
  fz : ∀ k, wr.frozen? ⟨w.heap.size, k, none⟩ = false

set_option maxRecDepth 100000 in
set_option maxHeartbeats 1000000 in
theorem refNew_any (w : World) (p : Nat) (h1 : 1 ≤ p) (h5 : p ≤ 5) :
    Calls Tryz.prog 65 #[.int .i64 p] w fun e w' => ∃ Y, e = .returned (.tuple #[.pointer (some ⟨Y.yb, 0, none⟩), .int .i64 0]) ∧ RRep w' Y (RSt.new p) ∧ Below w.heap.size w w' ∧ ∀ b t, Y.own b = some t → w.heap.size ≤ b := by
  obtain ⟨i0, hii, hz0, hz1, hz2⟩ := info_parts Tryz.infoRNode
  have c1 : ¬ ((p : Int) < 1) := by omega
  have c2 : ¬ ((5 : Int) < (p : Int)) := by omega
  go_enter Tryz.func65, Tryz.ntmps65
  go_wp2_with fail
  go_loopw [5] (fun i wr => ∃ j : Nat, j ≤ p + 1 ∧ i = .int .i64 (j : Int) ∧ NewK w wr j) (fun i _ => p + 1 - (intOf i).toNat)
  case atStart =>
    refine ⟨0, Nat.zero_le _, rfl, below_alloc _ _, by simp, ⟨⟨none, 0, 0⟩, rfl, by simp [go_sem], World.ownsRow_nil _ _ _ _, by simp⟩, by simp [go_sem], by simp [go_sem], by intro k; simp [go_sem]⟩
  case round =>
    obtain ⟨j, hj, rfl, hK⟩ := hrel
    obtain ⟨⟨sa, sn, sc⟩, rfl, c0, ho, hsa⟩ := hK.own
    simp only at c0 hj hsa
    have fz := hK.fz 0
    by_cases hlt : sn ≤ p
    · have hsz := hK.sz
      have hn6 : sn ≤ 5 := by omega
      go_wp2_with (at_builtin; refine wpList_append_one rfl _ _ 138 rfl 142 i0 (.agg #[.bool false, .int .i64 0, .slice none 0 0, .slice none 0 0]) 4 64 Tryz.underlying138 hii hz0 hz1 hz2 rfl (by decide) sa sn sc (nodeCells sn) rfl (World.ownsRow.alloc ho _) ⟨wr.heap.size, 0, none⟩ 1 [.bool true, .int .i64 (-1), .slice none 0 0, .slice none 0 0] rfl rfl (new_cells _ _ _) (fun x hx => by simp at hx; rcases hx with rfl | rfl | rfl <;> rfl) (by unfold maxLen; omega) (by omega) ?_; intro k cap' w3 g1 g2 g3; have hne : some w.heap.size ≠ (Value.slice sa sn sc).ownBlock := (by intro e; have := ho.own_ne hsa e; exact this); have hs3 := g2.size; have hb3 := g2.block w.heap.size (by simp; omega) hne; rw [Below.heap_alloc _ _ _ hsz] at hb3; have c03 := (World.cell?_of_block (a := ⟨w.heap.size, 0, none⟩) hb3).trans c0; have fz3 := (World.frozen?_of_block (a := ⟨w.heap.size, 0, none⟩) hb3).trans fz)
      refine ⟨⟨sn + 1, by omega, by go_num, ?_⟩, by simp [intOf]; omega⟩
      have hkw : w.heap.size < k := by
        rcases g3 with g3 | g3
        · exact hsa _ g3
        · simp at g3; omega
      have hbl : Below w.heap.size w w3 := (hK.bl.more (below_alloc _ _)).grown g2 (by simp; omega) (by intro b hb; have := ho.own_le hsa hb; omega)
      refine ⟨?_, by simp [World.setCell]; simp at hs3; omega, ⟨⟨some ⟨k, 0, none⟩, sn + 1, cap'⟩, rfl, cell_set_same c03, ?_, ?_⟩, (cell_set_ne (by omega)).trans ((World.cell?_of_block (a := ⟨w.heap.size, 1, none⟩) hb3).trans hK.c1), (cell_set_ne (by omega)).trans ((World.cell?_of_block (a := ⟨w.heap.size, 2, none⟩) hb3).trans hK.c2), fun o => by simpa using (World.frozen?_of_block (a := ⟨w.heap.size, o, none⟩) hb3).trans (hK.fz o)⟩
      · exact ⟨hbl.os, hbl.tape, hbl.output, by have := hbl.size; simpa [World.setCell] using this, fun b hb => (block_setCell (by simp only; omega)).trans (hbl.block b hb)⟩
      · exact (Owns.of_row (show w3.ownsRow 0 142 4 (.slice (some ⟨k, 0, none⟩) (sn + 1) cap') (sn + 1) (nodeCells (sn + 1)) from g1)).frame fun a ha => by simp only [Option.some.injEq] at ha; subst ha; exact block_setCell (by simp only; omega)
      · intro a ha; simp only [Option.some.injEq] at ha; subst ha; exact hkw
    · have hjp : sn = p + 1 := by omega
      subst hjp
      obtain ⟨g, hg, hgc, hgf, hcell⟩ := ho.at (by simp)
      simp only at hg hgc
      subst hg
      have hgw := hsa _ rfl
      simp only at hgw
      have hgl := ho.lt _ rfl
      simp only at hgl
      have HN := hide (fun i (hi : i ≤ p) => nodeCells_get (p + 1) i (by omega))
      have HC := hide hcell
      have HK := hide hK
      have HG := hide hgf
      clear hcell hK ho hsa hgf
      go_wp2
      go_ret2
      have hK := unhide HK
      have hcell := unhide HC
      have hN := unhide HN
      refine ⟨⟨w.heap.size, g, sc, fun _ => ⟨none, 0, 0⟩, fun _ => ⟨none, 0, 0⟩, ⟨none, 0, 0⟩, fun _ => ⟨none, 0, 0⟩, ⟨none, 0, 0⟩, fun b => if b = w.heap.size then some .world else if b = g then some .nodes else none⟩, rfl, ?_, hK.bl, ?_⟩
      · refine ⟨c0, hK.c1, hK.c2, hK.fz, hgc, fun i hi => hcell _ _ (hN i hi).1, fun i hi => hcell _ _ (hN i hi).2.1, fun i hi => hcell _ _ (hN i hi).2.2.1, fun i hi => hcell _ _ (hN i hi).2.2.2, unhide HG, fun i hi => World.ownsRow_nil _ _ _ _, fun i hi => World.ownsRow_nil _ _ _ _, World.ownsRow_nil _ _ _ _, fun t ht => absurd ht (by simp [RSt.new]), World.ownsRow_nil _ _ _ _, (by simp), (by simp only; rw [if_neg (by omega)]; simp), fun i hi a ha => (by cases ha), fun i hi a ha => (by cases ha), fun a ha => (by cases ha), fun t ht => absurd ht (by simp [RSt.new]), fun a ha => (by cases ha), ?_⟩
        intro b t hb
        simp only at hb
        split at hb
        · rename_i e; rw [e]; exact hK.sz
        · split at hb
          · rename_i e; rw [e]; exact hgl
          · cases hb
      · intro b t hb
        simp only at hb
        split at hb
        · omega
        · split at hb
          · omega
          · cases hb
end Go.Proofs.YtekbjlhbjcikdaaGreat
/-
  accordref: a transaction more, in memory; New where there is none.
-/
namespace Acc
def RSt.dealR (r : RSt) (ws : List Wr) : RSt := { r with trans := r.trans ++ [ws] }
theorem RSt.dealR_st (r : RSt) (ws : List Wr) : (r.dealR ws).st = r.st.deal' ws := rfl
end Acc
namespace Go.Proofs.YtekbjlhbjcikdaaGreat
open Go.RowKit Acc

theorem RRep.dealt {w w3 : World} {Y : RLay} {r : RSt} (h : RRep w Y r) (ws : List Wr) {k g n c2 cap' : Nat} (hu : Upd w w3 Y.own .trans k)
    (ho : w3.ownsRow 0 52 1 (.slice (some ⟨k, 0, none⟩) (r.trans.length + 1) cap') (r.trans.length + 1) (slCells Y.dl r.trans.length ++ [.slice (some ⟨g, 0, none⟩) n c2]))
    (hd : w3.ownsRow 0 74 3 (.slice (some ⟨g, 0, none⟩) n c2) n (wrCells ws)) (hgn : Y.own g = none) (hgs : w.heap.size ≤ g) (hgk : g ≠ k) (hgl : g < w3.heap.size) :
    RLeaves Y w (r.dealR ws) (w3.setCell ⟨Y.yb, 1, none⟩ (.slice (some ⟨k, 0, none⟩) (r.trans.length + 1) cap')) := by
  have hk := hu.tagged
  have by' : w3.heap[Y.yb]? = w.heap[Y.yb]? := hu.keep _ _ h.ty (by simp)
  have cY : ∀ o, w3.cell? ⟨Y.yb, o, none⟩ = w.cell? ⟨Y.yb, o, none⟩ := fun o => World.cell?_of_block (a := ⟨Y.yb, o, none⟩) by'
  have fY : ∀ o, w3.frozen? ⟨Y.yb, o, none⟩ = w.frozen? ⟨Y.yb, o, none⟩ := fun o => World.frozen?_of_block (a := ⟨Y.yb, o, none⟩) by'
  have kyb : k ≠ Y.yb := by
    intro e; rw [e] at hk
    rcases hk with hk | hk <;> rw [h.ty] at hk <;> cases hk
  have gyb : g ≠ Y.yb := by intro e; rw [e, h.ty] at hgn; cases hgn
  have hbk : ∀ b t, Y.own b = some t → t ≠ .trans → b ≠ Y.yb → (w3.setCell ⟨Y.yb, 1, none⟩ (.slice (some ⟨k, 0, none⟩) (r.trans.length + 1) cap')).heap[b]? = w.heap[b]? := fun b t hb h1 h2 => (block_setCell h2).trans (hu.keep b t hb h1)
  have aby : Y.ab ≠ Y.yb := tag_ne h.ta h.ty (by simp)
  have ba := hbk _ _ h.ta (by simp) aby
  have old : ∀ b u, Y.own b = some u → u ≠ .trans → retag (retag Y.own k .trans) g (.tran r.trans.length) b = some u := by
    intro b u hb hu'
    have h1 : retag Y.own k .trans b = some u := retag_old hk hb hu'
    unfold retag at h1 ⊢
    rw [if_neg (by intro e; rw [e, hgn] at hb; cases hb)]
    exact h1
  have hext := hu.ext ⟨Y.yb, 1, none⟩ h.ty (.slice (some ⟨k, 0, none⟩) (r.trans.length + 1) cap')
  have hl : (r.dealR ws).trans.length = r.trans.length + 1 := by simp [RSt.dealR]
  refine ⟨{ Y with dv := ⟨some ⟨k, 0, none⟩, r.trans.length + 1, cap'⟩, dl := fun t => if t = r.trans.length then ⟨some ⟨g, 0, none⟩, n, c2⟩ else Y.dl t, own := retag (retag Y.own k .trans) g (.tran r.trans.length) }, ⟨rfl, rfl⟩, ?_, ?_⟩
  · refine ⟨(cell_set_ne (by omega)).trans ((cY _).trans h.y0), cell_set_same ((cY _).trans h.y1), (cell_set_ne (by omega)).trans ((cY _).trans h.y2), fun o => by simpa using (fY o).trans (h.fy o), h.ac,
      fun i hi => (World.cell?_of_block ba).trans (h.n0 i hi), fun i hi => (World.cell?_of_block ba).trans (h.n1 i hi), fun i hi => (World.cell?_of_block ba).trans (h.n2 i hi), fun i hi => (World.cell?_of_block ba).trans (h.n3 i hi), fun o => (World.frozen?_of_block ba).trans (h.fa o),
      fun i hi => (h.ol i hi).frame fun a ha => hbk _ _ (h.tl i hi a ha) (by simp) (tag_ne (h.tl i hi a ha) h.ty (by simp)), fun i hi => (h.ov i hi).frame fun a ha => hbk _ _ (h.tv i hi a ha) (by simp) (tag_ne (h.tv i hi a ha) h.ty (by simp)), ?_, ?_,
      h.om.frame fun a ha => hbk _ _ (h.tf a ha) (by simp) (tag_ne (h.tf a ha) h.ty (by simp)), old _ _ h.ty (by simp), old _ _ h.ta (by simp), fun i hi a ha => old _ _ (h.tl i hi a ha) (by simp), fun i hi a ha => old _ _ (h.tv i hi a ha) (by simp), ?_, ?_, fun a ha => old _ _ (h.tf a ha) (by simp), ?_⟩
    · rw [hl]
      have e : slCells (fun t => if t = r.trans.length then (⟨some ⟨g, 0, none⟩, n, c2⟩ : Sl) else Y.dl t) (r.trans.length + 1) = slCells Y.dl r.trans.length ++ [.slice (some ⟨g, 0, none⟩) n c2] := by
        simp only [slCells, if_true]
        rw [slCells_congr _ Y.dl r.trans.length (fun i hi => by rw [if_neg (by omega)])]
      show Owns _ _ _ _ (slCells (fun t => if t = r.trans.length then (⟨some ⟨g, 0, none⟩, n, c2⟩ : Sl) else Y.dl t) (r.trans.length + 1))
      rw [e]
      exact (Owns.of_row ho).frame fun a ha => by simp only [Option.some.injEq] at ha; subst ha; exact block_setCell kyb
    · intro t ht
      rw [hl] at ht
      simp only [RSt.dealR]
      rw [getD_snoc]
      by_cases e : t = r.trans.length
      · rw [if_pos e, if_pos e]
        exact (Owns.of_row hd).frame fun a ha => by simp only [Option.some.injEq] at ha; subst ha; exact block_setCell gyb
      · rw [if_neg e, if_neg e]
        exact (h.ow t (by omega)).frame fun a ha => hbk _ _ (h.tw t (by omega) a ha) (by simp) (tag_ne (h.tw t (by omega) a ha) h.ty (by simp))
    · intro a ha
      simp only [Option.some.injEq] at ha
      subst ha
      simp [retag, Ne.symm hgk]
    · intro t ht a ha
      rw [hl] at ht
      by_cases e : t = r.trans.length
      · simp only [if_pos e, Option.some.injEq] at ha
        subst ha
        simp [retag, e]
      · simp only [if_neg e] at ha
        exact old _ _ (h.tw t (by omega) a ha) (by simp)
    · intro b u hb
      have hsz : (w3.setCell ⟨Y.yb, 1, none⟩ (.slice (some ⟨k, 0, none⟩) (r.trans.length + 1) cap')).heap.size = w3.heap.size := by simp [World.setCell]
      rw [hsz]
      simp only [retag] at hb
      split at hb
      · rename_i e; rw [e]; exact hgl
      · split at hb
        · rename_i e; rw [e]; exact hu.klt
        · exact Nat.lt_of_lt_of_le (h.lt b u hb) hu.size
  · refine ⟨hext.os, hext.tape, hext.output, hext.size, fun b hb hn => ?_⟩
    obtain ⟨h1, h2⟩ := hext.keep b hb hn
    refine ⟨h1, ?_⟩
    show retag (retag Y.own k .trans) g (.tran r.trans.length) b = none
    unfold retag at h2 ⊢
    rw [if_neg (by omega)]
    exact h2

set_option maxRecDepth 100000 in
set_option maxHeartbeats 1000000 in
theorem refNew_not (w : World) (p : Int) (h1 : ¬ (1 ≤ p ∧ p ≤ 5)) :
    Calls Tryz.prog 65 #[.int .i64 p] w fun e w' => e = .returned (.tuple #[.pointer none, .int .i64 1]) ∧ w' = w := by
  by_cases h0 : p < 1
  · clear h1
    go_enter Tryz.func65, Tryz.ntmps65
    go_wp2
    go_ret2
    exact ⟨rfl, rfl⟩
  · have h5 : 5 < p := by omega
    clear h1
    go_enter Tryz.func65, Tryz.ntmps65
    go_wp2
    go_ret2
    exact ⟨rfl, rfl⟩

theorem row_some' {w : World} {b e size : Nat} {a : Option Addr} {n cap : Nat} {xs : List Value} (h : w.ownsRow b e size (.slice a n cap) n xs) (hn : 0 < n) : ∃ g, a = some ⟨g, 0, none⟩ := by
  rcases h.2 with ⟨hv, h0⟩ | ⟨g, c, cur, hv, _⟩
  · omega
  · injection hv with e1; exact ⟨g, e1⟩
theorem Tryz.infoSlR : (Tryz.prog.info? 52).map (fun i => (i.zero, i.size, i.bytes)) = some (some (.slice none 0 0), 1, 24) := by kernel_rfl

set_option maxRecDepth 100000 in
set_option maxHeartbeats 4000000 in
theorem refBegin_ok {w : World} {Y : RLay} {r : RSt} {B : Nat} (h : RRep w Y r) (hk : ROk r B) (a : Option Addr) (n cap : Nat) (ws : List Wr) (hn : ws.length = n) (hm : n ≤ maxLen) (hc : n ≤ cap) (hw : WrAt w a ws)
    (hs : soundB ws r.parts = true) (hu : (r.nd 0).up = true) (h12 : r.trans.length < 12) :
    Calls Tryz.prog 98 #[.pointer (some ⟨Y.yb, 0, none⟩), .slice a n cap] w fun e w' => e = .returned (.tuple #[.int .i64 ((r.trans.length + 1 : Nat) : Int), .int .i64 0]) ∧ ROut Y w B (r.st.bgn ws).1 w' := by
  have hS := soundB_sound hs
  have hf := refFit_any h hk.wf.p5 a n cap ws hn hm hc hw
  rw [hs] at hf
  have HF := hide hf
  have hn6 : n ≤ 6 := by rw [← hn]; exact hS.2
  have hn1 : 1 ≤ n := by rw [← hn]; exact hS.1
  rcases hw with hw | ⟨g, o, rfl, hg, hcl⟩
  · rw [hw] at hn; simp at hn; omega
  obtain ⟨i0, hii, hz0, hz1, hz2⟩ := info_parts Tryz.infoWr
  obtain ⟨i1, hii1, hy0, hy1, hy2⟩ := info_parts Tryz.infoSlR
  have HN := hide hn
  have hk2 : Ok (r.st.deal' ws) := ⟨hk.ok.inv.dealt ws hS h12, by
    intro l hl x hx
    simp only [St.deal', List.mem_append, List.mem_singleton] at hl
    rcases hl with hl | hl
    · exact hk.ok.keys l hl x hx
    · subst hl; exact hS.4 x hx⟩
  have HK2 := hide hk2
  have hnews : ∀ W, Below w.heap.size w W → ∀ j u, (wrCells ws)[j]? = some u → W.cell? ((⟨g, o, none⟩ : Addr).add j) = some u := by
    intro W hb j u hu
    rcases (WrAt.below (a := some ⟨g, o, none⟩) (.inr ⟨g, o, rfl, hg, hcl⟩) hb).src with ⟨e, _⟩ | ⟨ad, e, hsrc⟩
    · cases e
    · injection e with e; subst e; exact hsrc j u hu
  have HNE := hide hnews
  have hwl : (wrCells ws).length = n * 3 := by rw [wrCells_length, hn]
  have HWL := hide hwl
  have y0 := h.y0
  have y1 := h.y1
  have n0 := h.n0 0 (Nat.zero_le _)
  rw [hu] at n0
  have hac := h.ac
  have hp5 := hk.wf.p5
  have hyl := World.block_lt_of_cell? w _ y0
  have hal := World.block_lt_of_cell? w _ n0
  have HD := hide (by have := h.od.len; rw [slCells_length] at this; omega : Y.dv.n = r.trans.length)
  have hdn : Y.dv.n < 12 := by rw [unhide HD]; exact h12
  clear hf hs hu hn hcl hnews hwl hk2 hS hm
  go_enter Tryz.func98, Tryz.ntmps98
  go_wp2_with fail
  refine (unhide HF).mono ?_
  rintro e w1 ⟨rfl, hb1⟩
  have y01 := (hb1.cell (p := ⟨Y.yb, 0, none⟩) hyl).trans y0
  have y11 := (hb1.cell (p := ⟨Y.yb, 1, none⟩) hyl).trans y1
  have n01 := (hb1.cell (p := ⟨Y.ab, 0 * 4, none⟩) hal).trans n0
  clear y0 y1 n0
  have hbs := hb1.size
  go_wp2_with (at_builtin; first
    | (refine wpList_append_own _ rfl _ _ 52 rfl w1.heap.size 74 i0 (.agg #[.int .i64 0, .int .i64 0, .int .i64 0]) 3 24 Tryz.underlying52 hii hz0 hz1 hz2 rfl (by decide) (.slice none 0 0) 0 [] rfl (World.ownsRow_nil _ _ _ _) ⟨g, o, none⟩ n cap (wrCells ws) rfl (unhide HWL) (unhide HNE _ hb1) (wrCells_one _) (by unfold maxLen; omega) (by omega) (Nat.le_refl _) ?_; intro v3 w3 ho3 hg3 _; obtain ⟨sa, sc, rfl⟩ := ownsRow_sl ho3; have hb3 : Below w1.heap.size w1 w3 := (Below.refl _ _).grown hg3 (Nat.le_refl _) (by intro b hb; simp [Value.ownBlock] at hb); have y13 := (hb3.cell (p := ⟨Y.yb, 1, none⟩) (by exact Nat.lt_of_lt_of_le hyl hbs)).trans y11; obtain ⟨gg, hgg⟩ := row_some' ho3 (by omega); subst hgg; clear hg3)
    | (refine wpList_append_one rfl _ _ 38 rfl 52 i1 (.slice none 0 0) 1 24 Tryz.underlying38 hii1 hy0 hy1 hy2 rfl (by decide) Y.dv.a Y.dv.n Y.dv.cap (slCells Y.dl r.trans.length) rfl (World.ownsRow.alloc (h.below (hb1.more hb3)).od _) ⟨w3.heap.size, 0, none⟩ 1 [.slice (some ⟨gg, 0, none⟩) n sc] rfl rfl (new_cells _ _ _) (fun x hx => by simp at hx; subst hx; rfl) (by unfold maxLen; omega) (by omega) ?_; intro k cap' w4 g1 g2 g3; have hu := Upd.of_append' h.lt h.td ((hb1.more hb3).more (below_alloc _ _)) g1 g2 g3; have y14 := (World.cell?_of_block (a := ⟨Y.yb, 1, none⟩) (hu.keep _ _ h.ty (by simp))).trans h.y1; have fz4 := (World.frozen?_of_block (a := ⟨Y.yb, 1, none⟩) (hu.keep _ _ h.ty (by simp))).trans (h.fy 1); have G2 := hide g2; have G3 := hide g3; clear g2 g3))
  have hgw := ho3.lt gg rfl
  have hgn : Y.own gg = none := h.free (by omega)
  have hgk : gg ≠ k := by
    intro e
    subst e
    rcases unhide G3 with g3 | g3
    · have := h.td _ g3; simp only at this; rw [hgn] at this; cases this
    · simp at g3; omega
  have hgrow := unhide G2
  have hd3 : w4.ownsRow 0 74 3 (.slice (some ⟨gg, 0, none⟩) n sc) n (wrCells ws) := by
    have ho3' : w3.ownsRow w1.heap.size 74 3 (.slice (some ⟨gg, 0, none⟩) n sc) n (wrCells ws) := by simpa using ho3
    refine ownsRow_mono (World.ownsRow.kept (World.ownsRow.alloc ho3' _) hgrow ?_) (Nat.zero_le _)
    right
    intro e
    simp only [Value.ownBlock] at e
    split at e
    · rename_i a0 _ _ he
      injection he with he
      have := h.td _ he
      injection e with e
      rw [← e, hgn] at this
      cases this
    · cases e
  rw [unhide HD] at g1
  have hL := h.dealt ws hu g1 hd3 hgn (by omega) hgk (by have := hgrow.size; simp at this; omega)
  rw [← unhide HD] at hL
  generalize w4.setCell ⟨Y.yb, 1, none⟩ (.slice (some ⟨k, 0, none⟩) (Y.dv.n + 1) cap') = w5 at *
  obtain ⟨Y5, he5, hR5, hE5⟩ := hL
  have hk5 : ROk (r.dealR ws) B := ROk.of (unhide HK2) hk.z
  have hal := refAll_any hR5 hk5.wf hk5.ok.inv (r.trans.length + 1) 1 1 (by omega) (by simp [RSt.dealR])
  rw [he5.1] at hal
  have HAL := hide hal
  have HDO := hide (fun wx (a : Option Addr) (cap : Nat) hb ho => refDoes_out (w1 := wx) hR5 hk5 0 (Nat.zero_le _) ((r.dealR ws).st.all (r.trans.length + 1) 1 1) (by have := all_len (r.dealR ws).st (r.trans.length + 1) 1 1; omega) a cap hb ho)
  rw [he5.1] at HDO
  have HST : Hid (((r.dealR ws).does 0 ((r.dealR ws).st.all (r.trans.length + 1) 1 1)).1.st = (r.st.bgn ws).1) := by
    show _ = _
    rw [RSt.does_st1]; rfl
  have HZ := hide (hk5.z.does 0 ((r.dealR ws).st.all (r.trans.length + 1) 1 1))
  rw [unhide HD]
  clear hd3 hgrow g1 hu y14 fz4 ho3 G2 G3 hal
  refine (unhide HAL).mono ?_
  rintro e w6 ⟨oa, oc, rfl, hb6, ho6⟩
  have hdo := hide (unhide HDO w6 oa oc hb6 ho6)
  clear HDO
  go_wp2_with fail
  refine (unhide hdo).mono ?_
  rintro e w7 ⟨rfl, hl7⟩
  go_wp2
  go_ret2
  exact ⟨rfl, _, RLeaves.trans he5 hE5 hl7, unhide HST, unhide HZ⟩

set_option maxRecDepth 100000 in
set_option maxHeartbeats 1000000 in
theorem refBegin_any {w : World} {Y : RLay} {r : RSt} {B : Nat} (h : RRep w Y r) (hk : ROk r B) (a : Option Addr) (n cap : Nat) (ws : List Wr) (hn : ws.length = n) (hm : n ≤ maxLen) (hc : n ≤ cap) (hw : WrAt w a ws) :
    Calls Tryz.prog 98 #[.pointer (some ⟨Y.yb, 0, none⟩), .slice a n cap] w fun e w' => e = .returned (.tuple #[.int .i64 ((r.st.beginP ws).2.1 : Nat), .int .i64 ((r.st.beginP ws).2.2 : Nat)]) ∧ ROut Y w B (r.st.beginP ws).1 w' := by
  have hpp : r.st.parts = r.parts := rfl
  have hf := refFit_any h hk.wf.p5 a n cap ws hn hm hc hw
  by_cases hs : soundB ws r.parts = true
  · rw [hs] at hf
    by_cases hu : (r.nd 0).up = true
    · by_cases h12 : r.trans.length < 12
      · have HP : r.st.beginP ws = ((r.st.bgn ws).1, (r.trans.length + 1, 0)) := by
          unfold St.beginP
          rw [hpp, if_pos hs, if_pos (show r.st.up 0 = true from hu), if_pos (show r.st.deals.length < 12 from h12)]; rfl
        rw [HP]
        exact refBegin_ok h hk a n cap ws hn hm hc hw hs hu h12
      · have HP : Hid (r.st.beginP ws = (r.st, (0, 4))) := by
          show _ = _
          unfold St.beginP
          rw [hpp, if_pos hs, if_pos (show r.st.up 0 = true from hu), if_neg (show ¬ r.st.deals.length < 12 from h12)]
        have y0 := h.y0
        have y1 := h.y1
        have n0 := h.n0 0 (Nat.zero_le _)
        rw [hu] at n0
        have hac := h.ac
        have hp5 := hk.wf.p5
        have hyl := World.block_lt_of_cell? w _ y0
        have hal := World.block_lt_of_cell? w _ n0
        have HD := hide (by have := h.od.len; rw [slCells_length] at this; omega : Y.dv.n = r.trans.length)
        have hdn : (12 : Int) ≤ (Y.dv.n : Int) := by rw [unhide HD]; omega
        have HF := hide hf
        clear hf hs hu h12
        go_enter Tryz.func98, Tryz.ntmps98
        go_wp2_with fail
        refine (unhide HF).mono ?_
        rintro e w1 ⟨rfl, hb1⟩
        have y01 := (hb1.cell (p := ⟨Y.yb, 0, none⟩) hyl).trans y0
        have y11 := (hb1.cell (p := ⟨Y.yb, 1, none⟩) hyl).trans y1
        have n01 := (hb1.cell (p := ⟨Y.ab, 0 * 4, none⟩) hal).trans n0
        clear y0 y1 n0
        go_wp2
        go_ret2
        rw [unhide HP]
        exact ⟨rfl, ROut.same h hk.z (Nat.le_refl _) hb1⟩
    · have HP : Hid (r.st.beginP ws = (r.st, (0, 2))) := by
        show _ = _
        unfold St.beginP
        rw [hpp, if_pos hs, if_neg (show ¬ r.st.up 0 = true from hu)]
      have y0 := h.y0
      have n0 := h.n0 0 (Nat.zero_le _)
      rw [show (r.nd 0).up = false from by simpa using hu] at n0
      have hac := h.ac
      have hp5 := hk.wf.p5
      have hyl := World.block_lt_of_cell? w _ y0
      have hal := World.block_lt_of_cell? w _ n0
      have HF := hide hf
      clear hf hs hu
      go_enter Tryz.func98, Tryz.ntmps98
      go_wp2_with fail
      refine (unhide HF).mono ?_
      rintro e w1 ⟨rfl, hb1⟩
      have y01 := (hb1.cell (p := ⟨Y.yb, 0, none⟩) hyl).trans y0
      have n01 := (hb1.cell (p := ⟨Y.ab, 0 * 4, none⟩) hal).trans n0
      clear y0 n0
      go_wp2
      go_ret2
      rw [unhide HP]
      exact ⟨rfl, ROut.same h hk.z (Nat.le_refl _) hb1⟩
  · have HP : Hid (r.st.beginP ws = (r.st, (0, 1))) := by
      show _ = _
      unfold St.beginP
      rw [hpp, if_neg hs]
    rw [show soundB ws r.parts = false from by simpa using hs] at hf
    have HF := hide hf
    clear hf hs
    go_enter Tryz.func98, Tryz.ntmps98
    go_wp2_with fail
    refine (unhide HF).mono ?_
    rintro e w1 ⟨rfl, hb1⟩
    go_wp2
    go_ret2
    rw [unhide HP]
    exact ⟨rfl, ROut.same h hk.z (Nat.le_refl _) hb1⟩
end Go.Proofs.YtekbjlhbjcikdaaGreat
/-
  accordref: walks of Fuse, Recover.
-/
namespace Acc
theorem RSt.fused_st (r : RSt) (n : Nat) (f : Int) (hf : 0 ≤ f) : (r.setNode n { r.nd n with fuse := f }).st = r.st.fused n f.toNat := by
  have h1 : (fun k => ((r.setNode n { r.nd n with fuse := f }).nd k).log) = fun k => (r.nd k).log := by funext k; exact RSt.setNode_same r n { r.nd n with fuse := f } (·.log) rfl k
  have h2 : (fun k => ((r.setNode n { r.nd n with fuse := f }).nd k).up) = fun k => (r.nd k).up := by funext k; exact RSt.setNode_same r n { r.nd n with fuse := f } (·.up) rfl k
  have h4 : ((r.setNode n { r.nd n with fuse := f }).nd 0).votes = (r.nd 0).votes := RSt.setNode_same r n { r.nd n with fuse := f } (·.votes) rfl 0
  have h3 : (fun k => if ((r.setNode n { r.nd n with fuse := f }).nd k).fuse < 0 then none else some ((r.setNode n { r.nd n with fuse := f }).nd k).fuse.toNat) = (r.st.fused n f.toNat).fuse := by
    funext k
    simp only [RSt.setNode, St.fused, RSt.st]
    by_cases e : k = n
    · subst e; simp only [if_true]; rw [if_neg (by omega)]
    · simp only [if_neg e]
  unfold RSt.st
  simp only [h1, h2, h3, h4]
  rfl
theorem RSt.risen_st (r : RSt) (n : Nat) : (r.setNode n { r.nd n with up := true }).st = r.st.rise n := by
  have h1 : (fun k => ((r.setNode n { r.nd n with up := true }).nd k).log) = fun k => (r.nd k).log := by funext k; exact RSt.setNode_same r n { r.nd n with up := true } (·.log) rfl k
  have h2 : (fun k => ((r.setNode n { r.nd n with up := true }).nd k).up) = (r.st.rise n).up := by
    funext k
    simp only [RSt.setNode, St.rise, RSt.st]
    split <;> rfl
  have h3 : (fun k => if ((r.setNode n { r.nd n with up := true }).nd k).fuse < 0 then none else some ((r.setNode n { r.nd n with up := true }).nd k).fuse.toNat) = fun k => if (r.nd k).fuse < 0 then none else some (r.nd k).fuse.toNat := by
    funext k; exact RSt.setNode_same r n { r.nd n with up := true } (fun x => if x.fuse < 0 then none else some x.fuse.toNat) rfl k
  have h4 : ((r.setNode n { r.nd n with up := true }).nd 0).votes = (r.nd 0).votes := RSt.setNode_same r n { r.nd n with up := true } (·.votes) rfl 0
  unfold RSt.st
  simp only [h1, h2, h3, h4]
  rfl
end Acc
namespace Go.Proofs.YtekbjlhbjcikdaaGreat
open Go.RowKit Acc

set_option maxRecDepth 100000 in
set_option maxHeartbeats 1000000 in
theorem refFuse_any {w : World} {Y : RLay} {r : RSt} {B : Nat} (h : RRep w Y r) (hk : ROk r B) (i a : Int) (ha : a < 9223372036854775808) :
    Calls Tryz.prog 104 #[.pointer (some ⟨Y.yb, 0, none⟩), .int .i64 i, .int .i64 a] w fun e w' => e = .returned (.int .i64 ((r.st.fuseP i a).2 : Nat)) ∧ ROut Y w B (r.st.fuseP i a).1 w' := by
  have hp5 := hk.wf.p5
  by_cases h0 : 0 ≤ i ∧ i ≤ r.parts
  · obtain ⟨n, rfl, hn⟩ := nat_le h0
    have HI := hide (refIs_yes h hk.wf n hn)
    have y0 := h.y0
    have n0 := h.n0 n hn
    have hac := h.ac
    have hnp : (n : Int) < (r.parts : Int) + 1 := by omega
    cases hu : (r.nd n).up with
    | true =>
      rw [hu] at n0
      by_cases hz : a < 0
      · have HP : Hid (r.st.fuseP n a = (r.st, 1)) := by
          show _ = _
          unfold St.fuseP
          rw [if_pos (by rw [r.nodeE_at n true hn, if_pos hu]), if_neg (by omega)]
        clear hu h0
        go_enter Tryz.func104, Tryz.ntmps104
        go_wp2_with fail
        refine (unhide HI).mono ?_
        rintro e w1 ⟨rfl, rfl⟩
        go_wp2
        go_ret
        rw [unhide HP]
        exact ⟨rfl, ROut.same h hk.z (Nat.le_refl _) (Below.refl _ _)⟩
      · have HP : Hid (r.st.fuseP n a = (r.st.fused n a.toNat, 0)) := by
          show _ = _
          unfold St.fuseP
          rw [if_pos (by rw [r.nodeE_at n true hn, if_pos hu]), if_pos (by omega), Int.toNat_natCast]
        have n1 := h.n1 n hn
        have fa := h.fa (n * 4 + 1)
        have HF := hide (h.fused n hn a)
        clear hu h0
        go_enter Tryz.func104, Tryz.ntmps104
        go_wp2_with fail
        refine (unhide HI).mono ?_
        rintro e w1 ⟨rfl, rfl⟩
        go_wp2
        go_ret
        rw [unhide HP]
        exact ⟨rfl, _, unhide HF, RSt.fused_st r n a (by omega), hk.z.setNode n _ ⟨⟨by show -1 ≤ a; omega, ha⟩, (hk.z n).2⟩⟩
    | false =>
      have HP : Hid (r.st.fuseP n a = (r.st, 2)) := by
        show _ = _
        unfold St.fuseP
        have : r.st.nodeE n true = 2 := by rw [r.nodeE_at n true hn, if_neg (by simp [hu])]
        rw [this, if_neg (by omega)]
      rw [hu] at n0
      clear hu h0
      go_enter Tryz.func104, Tryz.ntmps104
      go_wp2_with fail
      refine (unhide HI).mono ?_
      rintro e w1 ⟨rfl, rfl⟩
      go_wp2
      go_ret
      rw [unhide HP]
      exact ⟨rfl, ROut.same h hk.z (Nat.le_refl _) (Below.refl _ _)⟩
  · have HI := hide (refIs_no h hk.wf i h0)
    have HP : Hid (r.st.fuseP i a = (r.st, 1)) := by
      show _ = _
      unfold St.fuseP
      rw [r.nodeE_no i true h0, if_neg (by omega)]
    clear h0
    go_enter Tryz.func104, Tryz.ntmps104
    go_wp2_with fail
    refine (unhide HI).mono ?_
    rintro e w1 ⟨rfl, rfl⟩
    go_wp2
    go_ret
    rw [unhide HP]
    exact ⟨rfl, ROut.same h hk.z (Nat.le_refl _) (Below.refl _ _)⟩

theorem ROut.trans {Y Y1 : RLay} {w w1 w2 : World} {B : Nat} {s : St} (hy : Y1.yb = Y.yb ∧ Y1.ab = Y.ab) (he : Ext Y.own w Y1.own w1) (h : ROut Y1 w1 B s w2) : ROut Y w B s w2 := by
  obtain ⟨r', hl, hs, hz⟩ := h
  exact ⟨r', RLeaves.trans hy he hl, hs, hz⟩

set_option maxRecDepth 100000 in
set_option maxHeartbeats 1000000 in
theorem refRecover_any {w : World} {Y : RLay} {r : RSt} {B : Nat} (h : RRep w Y r) (hk : ROk r B) (i : Int) :
    Calls Tryz.prog 105 #[.pointer (some ⟨Y.yb, 0, none⟩), .int .i64 i] w fun e w' => e = .returned (.int .i64 ((r.st.recoverP i).2 : Nat)) ∧ ROut Y w B (r.st.recoverP i).1 w' := by
  have hp5 := hk.wf.p5
  by_cases h0 : 0 ≤ i ∧ i ≤ r.parts
  · obtain ⟨n, rfl, hn⟩ := nat_le h0
    have HI := hide (refIs_yes h hk.wf n hn)
    have y0 := h.y0
    have n0 := h.n0 n hn
    have hac := h.ac
    have hnp : (n : Int) < (r.parts : Int) + 1 := by omega
    cases hu : (r.nd n).up with
    | false =>
      have HP : Hid (r.st.recoverP n = ((r.st.rcv n).1, 0)) := by
        show _ = _
        unfold St.recoverP
        rw [if_pos (by rw [r.nodeE_at n false hn, if_pos hu]), Int.toNat_natCast]
      rw [hu] at n0
      have fa := h.fa (n * 4)
      obtain ⟨Y1, he, hR1, hE1⟩ := h.upped n hn true
      have hk1 : ROk (r.setNode n { r.nd n with up := true }) B := ROk.of (by rw [RSt.risen_st]; exact hk.ok.rise n) (hk.z.setNode n _ ⟨(hk.z n).1, (hk.z n).2⟩)
      have hst := RSt.risen_st r n
      by_cases hz : n = 0
      · subst hz
        have hun := refUndecided_any hR1 hk1
        rw [he.1, hst] at hun
        have HU := hide hun
        have HP2 : Hid ((r.st.rcv 0).1 = (r.st.rise 0).giveAll.1) := rfl
        clear hu h0 hun hst
        go_enter Tryz.func105, Tryz.ntmps105
        go_wp2_with fail
        refine (unhide HI).mono ?_
        rintro e w1 ⟨rfl, rfl⟩
        go_wp2_with fail
        refine (unhide HU).mono ?_
        rintro e w2 ⟨rfl, ho⟩
        go_wp2
        go_ret
        rw [unhide HP]
        exact ⟨rfl, ROut.trans he hE1 (by rw [unhide HP2]; exact ho)⟩
      · have hq : ((n : Int) == 0) = false := by rw [beq_eq_false_iff_ne]; omega
        have HP2 : Hid ((r.st.rcv n).1 = r.st.rise n) := by show _ = _; unfold St.rcv; rw [if_neg hz]
        clear hu h0 hz
        go_enter Tryz.func105, Tryz.ntmps105
        go_wp2_with fail
        refine (unhide HI).mono ?_
        rintro e w1 ⟨rfl, rfl⟩
        go_wp2
        go_ret
        rw [unhide HP]
        exact ⟨rfl, _, ⟨Y1, he, hR1, hE1⟩, by rw [unhide HP2]; exact hst, hk1.z⟩
    | true =>
      have HP : Hid (r.st.recoverP n = (r.st, 2)) := by
        show _ = _
        unfold St.recoverP
        have : r.st.nodeE n false = 2 := by rw [r.nodeE_at n false hn, if_neg (by simp [hu])]
        rw [this, if_neg (by omega)]
      rw [hu] at n0
      clear hu h0
      go_enter Tryz.func105, Tryz.ntmps105
      go_wp2_with fail
      refine (unhide HI).mono ?_
      rintro e w1 ⟨rfl, rfl⟩
      go_wp2
      go_ret
      rw [unhide HP]
      exact ⟨rfl, ROut.same h hk.z (Nat.le_refl _) (Below.refl _ _)⟩
  · have HI := hide (refIs_no h hk.wf i h0)
    have HP : Hid (r.st.recoverP i = (r.st, 1)) := by
      show _ = _
      unfold St.recoverP
      rw [r.nodeE_no i false h0, if_neg (by omega)]
    clear h0
    go_enter Tryz.func105, Tryz.ntmps105
    go_wp2_with fail
    refine (unhide HI).mono ?_
    rintro e w1 ⟨rfl, rfl⟩
    go_wp2
    go_ret
    rw [unhide HP]
    exact ⟨rfl, ROut.same h hk.z (Nat.le_refl _) (Below.refl _ _)⟩
end Go.Proofs.YtekbjlhbjcikdaaGreat
/-
  accordref: walk of Tick.
-/
namespace Acc
theorem asks_len (s : St) (p t : Nat) : (s.asks p t).length ≤ 6 := by
  have h5 : (members (s.deal t)).length ≤ 5 := by
    have : ∀ n, (membersTo (s.deal t) n).length ≤ n := by
      intro n
      induction n with
      | zero => simp [membersTo]
      | succ n ih => simp only [membersTo, List.length_append]; split <;> simp <;> omega
    exact this 5
  have := List.length_filter_le (fun m => m != p) (members (s.deal t))
  unfold St.asks; simp; omega
end Acc
namespace Go.Proofs.YtekbjlhbjcikdaaGreat
open Go.RowKit Acc

set_option maxRecDepth 100000 in
set_option maxHeartbeats 4000000 in
theorem refTick_part {w : World} {Y : RLay} {r : RSt} {B : Nat} (h : RRep w Y r) (hk : ROk r B) (p : Nat) (hp : p ≤ r.parts) (hp0 : p ≠ 0) (hu : (r.nd p).up = true) :
    Calls Tryz.prog 102 #[.pointer (some ⟨Y.yb, 0, none⟩), .int .i64 p] w fun e w' => e = .returned (.int .i64 0) ∧ ROut Y w B (r.st.askFrom p r.trans.length 1).1 w' := by
  obtain ⟨i0, hii, hz0, hz1, hz2⟩ := info_parts Tryz.infoAct
  have h12 := hk.wf.d12
  have hp5 := hk.wf.p5
  have HI := hide (refIs_yes h hk.wf p hp)
  have y0 := h.y0
  have n0 := h.n0 p hp
  have hac := h.ac
  have hnp : (p : Int) < (r.parts : Int) + 1 := by omega
  have hq : ((p : Int) == 0) = false := by rw [beq_eq_false_iff_ne]; omega
  rw [hu] at n0
  clear hu hp0
  go_enter Tryz.func102, Tryz.ntmps102
  go_wp2_with fail
  refine (unhide HI).mono ?_
  rintro e w1 ⟨rfl, rfl⟩
  go_wp2_with fail
  clear y0 n0 hac
  go_loopw [5, 6] (fun ok i wr => ∃ j : Nat, j ≤ r.trans.length ∧ i = .int .i64 ((j : Int) + 1) ∧ ok = .bool true ∧ ∃ rj, Hid (r.st.askFrom p r.trans.length 1 = rj.st.askFrom p (r.trans.length - j) (j + 1)) ∧ ROk rj B ∧ Hid (rj.trans = r.trans ∧ rj.parts = r.parts) ∧ RLeaves Y w1 rj wr) (fun _ i _ => (13 - intOf i).toNat)
  case atStart => exact ⟨0, Nat.zero_le _, rfl, rfl, r, hide rfl, hk, hide ⟨rfl, rfl⟩, Y, ⟨rfl, rfl⟩, h, Ext.refl _ _⟩
  case round =>
    obtain ⟨j, hj, rfl, rfl, rj, hg, hkj, hdj, Y1, he, hR, hE⟩ := hrel
    have y1 := hR.y1
    rw [he.1] at y1
    have HD := hide (by have := hR.od.len; rw [slCells_length] at this; rw [← (unhide hdj).1]; omega : Y1.dv.n = r.trans.length)
    have hdn : Y1.dv.n ≤ 12 := by rw [unhide HD]; exact h12
    by_cases hlt : j < r.trans.length
    · have hlt' : j < Y1.dv.n := by rw [unhide HD]; exact hlt
      have hst : r.st.askFrom p r.trans.length 1 = andThen (if rj.st.state p (j + 1) = 2 then rj.st.does p (rj.st.asks p (j + 1)) else (rj.st, true)) fun s' => s'.askFrom p (r.trans.length - (j + 1)) (j + 1 + 1) := by
        rw [unhide hg, show r.trans.length - j = (r.trans.length - (j + 1)) + 1 from by omega]; rfl
      have HS := hide hst
      have hpj : p ≤ rj.parts := by rw [(unhide hdj).2]; exact hp
      have hsa := refState_any hR hkj.wf p (j + 1) hpj
      rw [he.1] at hsa
      have HSA := hide hsa
      have HLT := hide hlt
      have HT2 := hide (by rw [(unhide hdj).1]; omega : j + 1 ≤ rj.trans.length)
      clear hst hsa hg hlt hj
      go_wp2_with fail
      rw [show ((j : Int) + 1) = ((j + 1 : Nat) : Int) from by omega]
      refine (unhide HSA).mono ?_
      rintro e w2 ⟨rfl, rfl⟩
      by_cases h1 : rj.st.state p (j + 1) = 2
      · have q1 : ((rj.st.state p (j + 1) : Int) != 2) = false := by rw [h1]; rfl
        have HQ := hide h1
        clear h1
        go_wp2_with fail
        rw [show ((j : Int) + 1) = ((j + 1 : Nat) : Int) from by omega]
        refine (refSend_any 6 p 0 (j + 1) _).mono ?_
        rintro e w3 ⟨rfl, hb3⟩
        have hbA := hb3.more (below_alloc w3 (Obj.cells #[.bool true, .int .i64 0, .int .i64 0, .int .i64 6, .int .i64 p, .int .i64 0, .int .i64 ((j : Int) + 1)] 173))
        have hoA : (w3.alloc (Obj.cells #[.bool true, .int .i64 0, .int .i64 0, .int .i64 6, .int .i64 p, .int .i64 0, .int .i64 ((j : Int) + 1)] 173)).ownsRow w2.heap.size 173 7 (.slice (some ⟨w3.heap.size, 0, none⟩) 1 1) 1 (actCells [.snd ⟨6, p, 0, j + 1⟩]) := ownsRow_new w3 _ _ _ _ _ _ hb3.size rfl rfl (by unfold maxLen; omega)
        have hma := refMembers_any (hR.below hbA) hkj.wf (j + 1) (by omega) (unhide HT2)
        rw [show rj.parts = rj.st.parts from rfl, members_parts hkj.ok.inv (j + 1), he.1] at hma
        have HMA := hide hma
        clear hma
        go_wp2_with fail
        generalize w3.alloc (Obj.cells #[.bool true, .int .i64 0, .int .i64 0, .int .i64 6, .int .i64 p, .int .i64 0, .int .i64 ((j : Int) + 1)] 173) = wa at *
        rw [show ((j : Int) + 1) = ((j + 1 : Nat) : Int) from by omega]
        refine (unhide HMA).mono ?_
        rintro e w4 ⟨sa, sc, rfl, hb4, ho4⟩
        have hl5 := members_len5 (rj.st.deal (j + 1))
        have ho0 := ownsRow_mono (ownsRow_below hoA hb4) (Nat.zero_le _)
        have hb04 := hbA.more hb4
        have hsa : ∀ x, sa = some x → x.block ≠ w3.heap.size := by
          intro x hx
          have := ho4.lt x.block (by rw [hx]; rfl)
          have := (hoA.lt w3.heap.size rfl).2
          omega
        have hw3 := hb3.size
        have hos : Owns w4 3 1 ⟨sa, (members (rj.st.deal (j + 1))).length, sc⟩ (natCells (members (rj.st.deal (j + 1)))) := ownsRow_mono ho4 (Nat.zero_le _)
        have HAS : Hid (rj.st.asks p (j + 1) = .snd ⟨6, p, 0, j + 1⟩ :: askL p (j + 1) (members (rj.st.deal (j + 1)))) := rfl
        have HDO := hide (fun wx (a : Option Addr) (cap : Nat) hb ho => refDoes_out (w1 := wx) hR hkj p hpj (rj.st.asks p (j + 1)) (by have := asks_len rj.st p (j + 1); omega) a cap hb ho)
        rw [he.1] at HDO
        generalize members (rj.st.deal (j + 1)) = ms at *
        clear HMA hoA hbA hb3 ho4
        go_wp2_with fail
        go_loopw [8, 10] (fun o i wx => ∃ (q k oc : Nat), q ≤ ms.length ∧ i = .int .i64 (q : Int) ∧ o = .slice (some ⟨k, 0, none⟩) ((askL p (j + 1) (ms.take q)).length + 1) oc ∧ Below w2.heap.size w2 wx ∧ Owns wx 3 1 ⟨sa, ms.length, sc⟩ (natCells ms) ∧
            (∀ x, sa = some x → x.block ≠ k) ∧ w2.heap.size ≤ k ∧
            wx.ownsRow 0 173 7 (.slice (some ⟨k, 0, none⟩) ((askL p (j + 1) (ms.take q)).length + 1) oc) ((askL p (j + 1) (ms.take q)).length + 1) (actCells (.snd ⟨6, p, 0, j + 1⟩ :: askL p (j + 1) (ms.take q)))) (fun _ i _ => ms.length - (intOf i).toNat)
        case atStart => exact ⟨0, _, _, Nat.zero_le _, rfl, rfl, hb04, hos, hsa, hw3, ho0⟩
        case round =>
          obtain ⟨q, k, oc, hq2, rfl, rfl, hb, hom, hne, hwk, hoo⟩ := hrel
          have hal : (askL p (j + 1) (ms.take q)).length ≤ 5 := by
            have h1 := List.length_filter_le (fun m => m != p) (ms.take q)
            have h2 : (ms.take q).length ≤ 5 := by rw [List.length_take]; omega
            unfold askL; rw [List.length_map]; omega
          by_cases hlq : q < ms.length
          · have hx : ms[q]? = some ms[q] := List.getElem?_eq_getElem _
            generalize ms[q] = x at hx
            obtain ⟨g, hg, hgc, _, hcell⟩ := hom.at (by simp; omega)
            simp only at hg hgc
            subst hg
            have z := hcell q _ (natCells_get ms q x hx)
            have hgk := hne _ rfl
            have hgl := hom.lt _ rfl
            simp only at hgk hgl
            have HOM := hide hom
            clear hcell hom ho0 hos
            by_cases hxp : x = p
            · have HT := hide (askL_take_eq p (j + 1) ms q x hx hxp)
              have qx : ((x : Int) != (p : Int)) = false := by rw [hxp]; simp
              clear hx hxp
              go_wp2
              refine ⟨⟨q + 1, k, oc, by omega, by go_num, ?_, hb, unhide HOM, hne, hwk, ?_⟩, by simp [intOf]; omega⟩
              · rw [unhide HT]
              · rw [unhide HT]; exact hoo
            · have HT := hide (askL_take_ne p (j + 1) ms q x hx hxp)
              have qx : ((x : Int) != (p : Int)) = true := by simp; omega
              clear hx hxp
              go_wp2_with fail
              rw [show ((j : Int) + 1) = ((j + 1 : Nat) : Int) from by omega]
              refine (refSend_any 6 p x (j + 1) _).mono ?_
              rintro e w5 ⟨rfl, hb5⟩
              have hoo5 := ownsRow_below hoo hb5
              have hs5 := hb5.size
              generalize hacs : actCells (.snd ⟨6, p, 0, j + 1⟩ :: askL p (j + 1) (ms.take q)) = acs at *
              generalize hln : (askL p (j + 1) (ms.take q)).length = ln at *
              clear hoo
              go_wp2_with (at_builtin; refine wpList_append_one rfl _ _ 167 rfl 173 i0 (.agg #[.bool false, .int .i64 0, .int .i64 0, .int .i64 0, .int .i64 0, .int .i64 0, .int .i64 0]) 7 56 Tryz.underlying167 hii hz0 hz1 hz2 rfl (by decide) (some ⟨k, 0, none⟩) (ln + 1) oc acs rfl (World.ownsRow.alloc hoo5 _) ⟨w5.heap.size, 0, none⟩ 1 [.bool true, .int .i64 0, .int .i64 0, .int .i64 6, .int .i64 p, .int .i64 x, .int .i64 ((j : Int) + 1)] rfl rfl (new_cells _ _ _) (fun x hx => by simp at hx; rcases hx with rfl | rfl | rfl | rfl | rfl | rfl <;> rfl) (by unfold maxLen; omega) (by omega) ?_; intro k' cap' w6 g1 g2 g3)
              have hs6 := g2.size
              have hom6 : Owns w6 3 1 ⟨some ⟨g, 0, none⟩, ms.length, sc⟩ (natCells ms) := (unhide HOM).frame fun a ha => by
                simp only [Option.some.injEq] at ha; subst ha
                rw [g2.block g (by simp; omega) (by simp [Value.ownBlock]; omega), Below.heap_alloc _ _ _ (by omega)]
                exact hb5.block g hgl
              have hbel : Below w2.heap.size w2 w6 := ((hb.more hb5).more (below_alloc _ _)).grown g2 (by simp; have := hb.size; omega) (by intro b hb; simp only [Value.ownBlock, Option.some.injEq] at hb; omega)
              have hkk : g ≠ k' ∧ w2.heap.size ≤ k' := by
                rcases g3 with g3 | g3
                · injection g3 with g3; injection g3 with g3; subst g3; exact ⟨hgk, hwk⟩
                · simp at g3; have := hb.size; omega
              refine ⟨⟨q + 1, k', cap', by omega, by go_num, ?_, hbel, hom6, ?_, hkk.2, ?_⟩, by simp [intOf]; omega⟩
              · rw [unhide HT, List.length_append, hln]; rfl
              · intro x hx; simp only [Option.some.injEq] at hx; subst hx; exact hkk.1
              · rw [unhide HT, List.length_append, hln, ← List.cons_append, actCells_append, hacs]; exact g1
          · have hfull : ms.take q = ms := List.take_of_length_le (by omega)
            rw [hfull] at hoo ⊢
            have hor : wr.ownsRow w2.heap.size 173 7 (.slice (some ⟨k, 0, none⟩) (rj.st.asks p (j + 1)).length oc) (rj.st.asks p (j + 1)).length (actCells (rj.st.asks p (j + 1))) := by
              rw [unhide HAS, List.length_cons]
              exact ownsRow_rebase' (s := ⟨some ⟨k, 0, none⟩, (askL p (j + 1) ms).length + 1, oc⟩) hoo (by intro a ha; simp only [Option.some.injEq] at ha; subst ha; exact hwk)
            have hdo := unhide HDO wr _ oc hb hor
            rw [show (rj.st.asks p (j + 1)).length = (askL p (j + 1) ms).length + 1 from by rw [unhide HAS]; rfl] at hdo
            have HDD := hide hdo
            clear hdo HDO hoo hom hfull ho0 hos
            go_wp2_with fail
            refine (unhide HDD).mono ?_
            rintro e w7 ⟨rfl, hl7⟩
            have hko : Ok ((rj.does p (rj.st.asks p (j + 1))).1).st := by
              rw [RSt.does_st1]
              exact hkj.ok.of (hkj.ok.inv.asks p (j + 1) ((hkj.ok.inv.h2).1 (unhide HQ))) (does_deals _ _ _).1
            have hdd : (rj.does p (rj.st.asks p (j + 1))).1.trans = r.trans ∧ (rj.does p (rj.st.asks p (j + 1))).1.parts = r.parts := ⟨(RSt.does_trans _ _ _).trans (unhide hdj).1, (RSt.does_parts _ _ _).trans (unhide hdj).2⟩
            have hz := hkj.z.does p (rj.st.asks p (j + 1))
            have hs1 := RSt.does_st1 rj p (rj.st.asks p (j + 1))
            have hs2 := RSt.does_st2 rj p (rj.st.asks p (j + 1))
            have hSS := unhide HS
            rw [if_pos (unhide HQ)] at hSS
            have hl8 := RLeaves.trans he hE hl7
            cases hbb : (rj.does p (rj.st.asks p (j + 1))).2 with
            | true =>
              rw [andThen_true (by rw [← hs2, hbb]), ← hs1] at hSS
              have HSS := hide hSS
              have HDX := hide hdd
              clear hSS hdd hbb hs1 hs2 HS
              go_wp2
              have := unhide HLT
              exact ⟨⟨j + 1, by omega, by go_num, rfl, _, HSS, ROk.of hko hz, HDX, hl8⟩, by simp [intOf]; omega⟩
            | false =>
              rw [andThen_false (by rw [← hs2, hbb]), ← hs1] at hSS
              have HSS := hide hSS
              clear hSS hdd hbb hs1 hs2 HS
              go_wp2
              go_ret
              exact ⟨rfl, _, hl8, by rw [unhide HSS], hz⟩
      · have q1 : ((rj.st.state p (j + 1) : Int) != 2) = true := by simp; omega
        have hs2 := unhide HS
        rw [if_neg h1, andThen_true rfl] at hs2
        have HS2 := hide hs2
        clear h1 hs2
        go_wp2
        have := unhide HLT
        exact ⟨⟨j + 1, by omega, by go_num, rfl, rj, HS2, hkj, hdj, Y1, he, hR, hE⟩, by simp [intOf]; omega⟩
    · have hlt' : ¬ j < Y1.dv.n := by rw [unhide HD]; exact hlt
      have hfin : r.st.askFrom p r.trans.length 1 = (rj.st, true) := by rw [unhide hg, show r.trans.length - j = 0 from by omega]; rfl
      have HF := hide hfin
      clear hfin hg
      go_wp2
      go_ret
      exact ⟨rfl, rj, ⟨Y1, he, hR, hE⟩, by rw [unhide HF], hkj.z⟩
end Go.Proofs.YtekbjlhbjcikdaaGreat
/-
  accordref: walks of Tick (whole), State, Holder, Up.
-/
namespace Go.Proofs.YtekbjlhbjcikdaaGreat
open Go.RowKit Acc

set_option maxRecDepth 100000 in
set_option maxHeartbeats 1000000 in
theorem refTick_any {w : World} {Y : RLay} {r : RSt} {B : Nat} (h : RRep w Y r) (hk : ROk r B) (i : Int) :
    Calls Tryz.prog 102 #[.pointer (some ⟨Y.yb, 0, none⟩), .int .i64 i] w fun e w' => e = .returned (.int .i64 ((r.st.tickP i).2 : Nat)) ∧ ROut Y w B (r.st.tickP i).1 w' := by
  have hp5 := hk.wf.p5
  by_cases h0 : 0 ≤ i ∧ i ≤ r.parts
  · obtain ⟨n, rfl, hn⟩ := nat_le h0
    have HI := hide (refIs_yes h hk.wf n hn)
    have y0 := h.y0
    have n0 := h.n0 n hn
    have hac := h.ac
    have hnp : (n : Int) < (r.parts : Int) + 1 := by omega
    cases hu : (r.nd n).up with
    | true =>
      have HP : Hid (r.st.tickP n = ((r.st.tick n).1, 0)) := by
        show _ = _
        unfold St.tickP
        rw [if_pos (by rw [r.nodeE_at n true hn, if_pos hu]), Int.toNat_natCast]
      by_cases hz : n = 0
      · subst hz
        rw [hu] at n0
        have HU := hide (refUndecided_any h hk)
        have HP2 : Hid ((r.st.tick 0).1 = r.st.giveAll.1) := rfl
        clear hu h0
        go_enter Tryz.func102, Tryz.ntmps102
        go_wp2_with fail
        refine (unhide HI).mono ?_
        rintro e w1 ⟨rfl, rfl⟩
        go_wp2_with fail
        refine (unhide HU).mono ?_
        rintro e w2 ⟨rfl, ho⟩
        go_wp2
        go_ret
        rw [unhide HP]
        exact ⟨rfl, by rw [unhide HP2]; exact ho⟩
      · refine (refTick_part h hk n hn hz hu).mono ?_
        rintro e w1 ⟨rfl, ho⟩
        rw [unhide HP]
        refine ⟨rfl, ?_⟩
        have : (r.st.tick n).1 = (r.st.askFrom n r.trans.length 1).1 := by unfold St.tick; rw [if_neg hz]; rfl
        rw [this]; exact ho
    | false =>
      have HP : Hid (r.st.tickP n = (r.st, 2)) := by
        show _ = _
        unfold St.tickP
        have : r.st.nodeE n true = 2 := by rw [r.nodeE_at n true hn, if_neg (by simp [hu])]
        rw [this, if_neg (by omega)]
      rw [hu] at n0
      clear hu h0
      go_enter Tryz.func102, Tryz.ntmps102
      go_wp2_with fail
      refine (unhide HI).mono ?_
      rintro e w1 ⟨rfl, rfl⟩
      go_wp2
      go_ret
      rw [unhide HP]
      exact ⟨rfl, ROut.same h hk.z (Nat.le_refl _) (Below.refl _ _)⟩
  · have HI := hide (refIs_no h hk.wf i h0)
    have HP : Hid (r.st.tickP i = (r.st, 1)) := by
      show _ = _
      unfold St.tickP
      rw [r.nodeE_no i true h0, if_neg (by omega)]
    clear h0
    go_enter Tryz.func102, Tryz.ntmps102
    go_wp2_with fail
    refine (unhide HI).mono ?_
    rintro e w1 ⟨rfl, rfl⟩
    go_wp2
    go_ret
    rw [unhide HP]
    exact ⟨rfl, ROut.same h hk.z (Nat.le_refl _) (Below.refl _ _)⟩

set_option maxRecDepth 100000 in
set_option maxHeartbeats 1000000 in
theorem refUp_any {w : World} {Y : RLay} {r : RSt} {B : Nat} (h : RRep w Y r) (hk : ROk r B) (i : Int) :
    Calls Tryz.prog 114 #[.pointer (some ⟨Y.yb, 0, none⟩), .int .i64 i] w fun e w' => e = .returned (.tuple #[.bool (r.st.upP i).1, .int .i64 ((r.st.upP i).2 : Nat)]) ∧ w' = w := by
  have hp5 := hk.wf.p5
  by_cases h0 : 0 ≤ i ∧ i ≤ r.parts
  · obtain ⟨n, rfl, hn⟩ := nat_le h0
    have HI := hide (refIs_yes h hk.wf n hn)
    have y0 := h.y0
    have n0 := h.n0 n hn
    have hac := h.ac
    have hnp : (n : Int) < (r.parts : Int) + 1 := by omega
    have HP : Hid (r.st.upP n = ((r.nd n).up, 0)) := by
      show _ = _
      unfold St.upP
      rw [if_pos ⟨by omega, by show (n : Int) ≤ (r.parts : Int); omega⟩, Int.toNat_natCast]; rfl
    clear h0
    go_enter Tryz.func114, Tryz.ntmps114
    go_wp2_with fail
    refine (unhide HI).mono ?_
    rintro e w1 ⟨rfl, rfl⟩
    go_wp2
    go_ret2
    rw [unhide HP]
    exact ⟨rfl, rfl⟩
  · have HI := hide (refIs_no h hk.wf i h0)
    have HP : Hid (r.st.upP i = (false, 1)) := if_neg h0
    clear h0
    go_enter Tryz.func114, Tryz.ntmps114
    go_wp2_with fail
    refine (unhide HI).mono ?_
    rintro e w1 ⟨rfl, rfl⟩
    go_wp2
    go_ret2
    rw [unhide HP]
    exact ⟨rfl, rfl⟩

set_option maxRecDepth 100000 in
set_option maxHeartbeats 1000000 in
theorem refStateP_any {w : World} {Y : RLay} {r : RSt} {B : Nat} (h : RRep w Y r) (hk : ROk r B) (i t : Int) :
    Calls Tryz.prog 111 #[.pointer (some ⟨Y.yb, 0, none⟩), .int .i64 i, .int .i64 t] w fun e w' => e = .returned (.tuple #[.int .i64 ((r.st.stateP i t).1 : Nat), .int .i64 ((r.st.stateP i t).2 : Nat)]) ∧ w' = w := by
  have h12 := hk.wf.d12
  have y1 := h.y1
  have HD := hide (by have := h.od.len; rw [slCells_length] at this; omega : Y.dv.n = r.trans.length)
  have hdn : Y.dv.n ≤ 12 := by rw [unhide HD]; exact h12
  by_cases h0 : 0 ≤ i ∧ i ≤ r.parts
  · obtain ⟨n, rfl, hn⟩ := nat_le h0
    have HI := hide (refIs_yes h hk.wf n hn)
    by_cases h1 : 1 ≤ t
    · by_cases h2 : t ≤ r.trans.length
      · obtain ⟨q, rfl⟩ : ∃ q : Nat, t = q := ⟨t.toNat, by omega⟩
        have HP : Hid (r.st.stateP n q = (r.st.state n q, 0)) := by
          show _ = _
          unfold St.stateP
          rw [if_pos ⟨⟨by omega, by show (n : Int) ≤ (r.parts : Int); omega⟩, h1, h2⟩, Int.toNat_natCast, Int.toNat_natCast]
        have HS := hide (refState_any h hk.wf n q hn)
        have c1 : ¬ ((q : Int) < 1) := by omega
        have c2 : ¬ ((Y.dv.n : Int) < (q : Int)) := by rw [unhide HD]; omega
        clear h0 h1 h2
        go_enter Tryz.func111, Tryz.ntmps111
        go_wp2_with fail
        refine (unhide HI).mono ?_
        rintro e w1 ⟨rfl, rfl⟩
        go_wp2_with fail
        refine (unhide HS).mono ?_
        rintro e w2 ⟨rfl, rfl⟩
        go_wp2
        go_ret2
        rw [unhide HP]
        exact ⟨rfl, rfl⟩
      · have HP : Hid (r.st.stateP n t = (0, 1)) := if_neg (fun hh => h2 hh.2.2)
        have c1 : ¬ (t < 1) := by omega
        have c2 : (Y.dv.n : Int) < t := by rw [unhide HD]; omega
        clear h0 h1 h2
        go_enter Tryz.func111, Tryz.ntmps111
        go_wp2_with fail
        refine (unhide HI).mono ?_
        rintro e w1 ⟨rfl, rfl⟩
        go_wp2
        go_ret2
        rw [unhide HP]
        exact ⟨rfl, rfl⟩
    · have HP : Hid (r.st.stateP n t = (0, 1)) := if_neg (fun hh => h1 hh.2.1)
      have c1 : t < 1 := by omega
      clear h0 h1
      go_enter Tryz.func111, Tryz.ntmps111
      go_wp2_with fail
      refine (unhide HI).mono ?_
      rintro e w1 ⟨rfl, rfl⟩
      go_wp2
      go_ret2
      rw [unhide HP]
      exact ⟨rfl, rfl⟩
  · have HI := hide (refIs_no h hk.wf i h0)
    have HP : Hid (r.st.stateP i t = (0, 1)) := if_neg (fun hh => h0 hh.1)
    clear h0
    go_enter Tryz.func111, Tryz.ntmps111
    go_wp2_with fail
    refine (unhide HI).mono ?_
    rintro e w1 ⟨rfl, rfl⟩
    go_wp2
    go_ret2
    rw [unhide HP]
    exact ⟨rfl, rfl⟩

set_option maxRecDepth 100000 in
set_option maxHeartbeats 1000000 in
theorem refHolderP_any {w : World} {Y : RLay} {r : RSt} {B : Nat} (h : RRep w Y r) (hk : ROk r B) (i k : Int) :
    Calls Tryz.prog 113 #[.pointer (some ⟨Y.yb, 0, none⟩), .int .i64 i, .int .i64 k] w fun e w' => e = .returned (.tuple #[.int .i64 ((r.st.holderP i k).1 : Nat), .int .i64 ((r.st.holderP i k).2 : Nat)]) ∧ w' = w := by
  have HI := hide (refPlace_any h hk.wf.p5 i k)
  by_cases h0 : r.st.keyOk i k
  · have hr : 0 ≤ i ∧ i ≤ r.parts := ⟨by have := h0.1.1; omega, h0.1.2⟩
    have HP : Hid (r.st.holderP i k = (r.st.holder i.toNat k, 0)) := if_pos h0
    rw [decide_eq_true h0] at HI
    obtain ⟨n, rfl, hn⟩ := nat_le hr
    rw [Int.toNat_natCast] at HP
    have HS := hide (refHolder_any h hk.wf n k hn)
    clear h0 hr
    go_enter Tryz.func113, Tryz.ntmps113
    go_wp2_with fail
    refine (unhide HI).mono ?_
    rintro e w1 ⟨rfl, rfl⟩
    go_wp2_with fail
    refine (unhide HS).mono ?_
    rintro e w2 ⟨rfl, rfl⟩
    go_wp2
    go_ret2
    rw [unhide HP]
    exact ⟨rfl, rfl⟩
  · have HP : Hid (r.st.holderP i k = (0, 1)) := if_neg h0
    rw [decide_eq_false h0] at HI
    clear h0
    go_enter Tryz.func113, Tryz.ntmps113
    go_wp2_with fail
    refine (unhide HI).mono ?_
    rintro e w1 ⟨rfl, rfl⟩
    go_wp2
    go_ret2
    rw [unhide HP]
    exact ⟨rfl, rfl⟩
end Go.Proofs.YtekbjlhbjcikdaaGreat
/-
  accordref: walks of Value, Log.
-/
namespace Acc
theorem value_take2 (s : St) (p k : Int) (l : List (Nat × Nat)) (j : Nat) (x : Nat × Nat) (h : l[j]? = some x) : (l.take (j + 1)).foldl (valStep s p k) 0 = valStep s p k ((l.take j).foldl (valStep s p k) 0) x := by
  rw [List.take_add_one, h, List.foldl_append]; rfl
end Acc
namespace Go.Proofs.YtekbjlhbjcikdaaGreat
open Go.RowKit Acc

set_option maxRecDepth 100000 in
set_option maxHeartbeats 1000000 in
theorem refValueP_any {w : World} {Y : RLay} {r : RSt} {B : Nat} (h : RRep w Y r) (hk : ROk r B) (i k : Int) :
    Calls Tryz.prog 112 #[.pointer (some ⟨Y.yb, 0, none⟩), .int .i64 i, .int .i64 k] w fun e w' => e = .returned (.tuple #[.int .i64 (r.st.valueP i k).1, .int .i64 ((r.st.valueP i k).2 : Nat)]) ∧ w' = w := by
  have HI := hide (refPlace_any h hk.wf.p5 i k)
  have hp5 := hk.wf.p5
  by_cases h0 : r.st.keyOk i k
  · have hr : 0 ≤ i ∧ i ≤ r.parts := ⟨by have := h0.1.1; omega, h0.1.2⟩
    have HP : Hid (r.st.valueP i k = (r.st.value i.toNat k, 0)) := if_pos h0
    rw [decide_eq_true h0] at HI
    obtain ⟨n, rfl, hn⟩ := nat_le hr
    rw [Int.toNat_natCast] at HP
    have HV : Hid (r.st.value n k = ((r.nd n).log).foldl (valStep r.st n k) 0) := rfl
    have ho := h.ol n hn
    have hll := hk.wf.ll n hn
    have hlen := ho.len
    rw [recCells_length] at hlen
    have y0 := h.y0
    have n2 := h.n2 n hn
    have hac := h.ac
    have hlt := hk.wf.lt n
    have HWA := hide (fun t h1 h2 => refWrites_any h hk.wf t n k h1 h2)
    generalize hsl : Y.lv n = sl at *
    obtain ⟨a, q, cap⟩ := sl
    simp only at hlen n2
    have HL := hide (by omega : ((r.nd n).log).length = q)
    have hq : q ≤ 1000000 := by omega
    have hnp : (n : Int) < (r.parts : Int) + 1 := by omega
    have HLT := hide (fun x hx => hlt x hn hx)
    generalize (r.nd n).log = l at *
    clear hll hlen hlt h0 hr
    go_enter Tryz.func112, Tryz.ntmps112
    go_wp2_with fail
    refine (unhide HI).mono ?_
    rintro e w1 ⟨rfl, rfl⟩
    go_wp2_with fail
    go_loop [9, 11] (fun v i => ∃ j : Nat, j ≤ q ∧ i = .int .i64 (j : Int) ∧ v = .int .i64 ((l.take j).foldl (valStep r.st n k) 0)) (fun _ i => q - (intOf i).toNat)
    case atStart => exact ⟨0, Nat.zero_le _, rfl, rfl⟩
    case round =>
      obtain ⟨j, hj, rfl, rfl⟩ := hrel
      by_cases hlt : j < q
      · have hx : l[j]? = some (l[j]'(by rw [unhide HL]; exact hlt)) := List.getElem?_eq_getElem _
        generalize l[j]'(by rw [unhide HL]; exact hlt) = x at hx
        have HD := hide (value_take2 r.st n k l j x hx)
        have hrng := unhide HLT x (List.mem_of_getElem? hx)
        obtain ⟨g, ha, hcap, _, hc⟩ := ho.at (by simp; omega)
        simp only at ha hcap
        subst ha
        obtain ⟨q0, q1⟩ := recCells_get l j x hx
        have q0 := hc _ _ q0
        have q1 := hc _ _ q1
        rw [show 2 * j = j * 2 from by omega] at q0 q1
        have HW := hide (unhide HWA x.1 hrng.1 hrng.2)
        have HVS : Hid (valStep r.st n k ((l.take j).foldl (valStep r.st n k) 0) x = if x.2 = 3 then (findW (r.st.deal x.1) n k).getD ((l.take j).foldl (valStep r.st n k) 0) else (l.take j).foldl (valStep r.st n k) 0) := rfl
        clear hc hx ho hrng
        generalize (l.take j).foldl (valStep r.st n k) 0 = v0 at *
        go_wp2_with fail
        refine (unhide HW).mono ?_
        rintro e w2 ⟨rfl, rfl⟩
        cases hfw : findW (r.st.deal x.1) n k with
        | none =>
          have HF := hide hfw
          clear hfw
          go_wp2
          all_goals
            refine ⟨⟨j + 1, by omega, by go_num, ?_⟩, by simp [intOf]; omega⟩
            rw [unhide HD, unhide HVS, unhide HF]; simp
        | some y =>
          have HF := hide hfw
          clear hfw
          by_cases hs : x.2 = 3
          · have hq3 : ((x.2 : Int) == 3) = true := by rw [hs]; rfl
            have HQ := hide hs
            clear hs
            go_wp2
            refine ⟨⟨j + 1, by omega, by go_num, ?_⟩, by simp [intOf]; omega⟩
            rw [unhide HD, unhide HVS, if_pos (unhide HQ), unhide HF]; rfl
          · have hq3 : ((x.2 : Int) == 3) = false := by rw [beq_eq_false_iff_ne]; omega
            have HQ := hide hs
            clear hs
            go_wp2
            refine ⟨⟨j + 1, by omega, by go_num, ?_⟩, by simp [intOf]; omega⟩
            rw [unhide HD, unhide HVS, if_neg (unhide HQ)]
      · have HE := hide (show l.take j = l from List.take_of_length_le (by rw [unhide HL]; omega))
        rw [unhide HE]
        go_wp2
        go_ret2
        rw [unhide HP, unhide HV]
        exact ⟨rfl, rfl⟩
  · have HP : Hid (r.st.valueP i k = (0, 1)) := if_neg h0
    rw [decide_eq_false h0] at HI
    clear h0
    go_enter Tryz.func112, Tryz.ntmps112
    go_wp2_with fail
    refine (unhide HI).mono ?_
    rintro e w1 ⟨rfl, rfl⟩
    go_wp2
    go_ret2
    rw [unhide HP]
    exact ⟨rfl, rfl⟩

set_option maxRecDepth 100000 in
set_option maxHeartbeats 1000000 in
theorem refLogP_any {w : World} {Y : RLay} {r : RSt} {B : Nat} (h : RRep w Y r) (hk : ROk r B) (i : Int) :
    Calls Tryz.prog 108 #[.pointer (some ⟨Y.yb, 0, none⟩), .int .i64 i] w fun e w' => ∃ a cap, e = .returned (.tuple #[.slice a (r.st.logP i).1.length cap, .int .i64 ((r.st.logP i).2 : Nat)]) ∧ Below w.heap.size w w' ∧
      w'.ownsRow w.heap.size 43 2 (.slice a (r.st.logP i).1.length cap) (r.st.logP i).1.length (recCells (r.st.logP i).1) := by
  have hp5 := hk.wf.p5
  by_cases h0 : 0 ≤ i ∧ i ≤ r.parts
  · have HP : Hid (r.st.logP i = ((r.nd i.toNat).log, 0)) := if_pos h0
    obtain ⟨n, rfl, hn⟩ := nat_le h0
    rw [Int.toNat_natCast] at HP
    have HI := hide (refIs_yes h hk.wf n hn)
    have ho := h.ol n hn
    have hll := hk.wf.ll n hn
    have hlen := ho.len
    rw [recCells_length] at hlen
    have y0 := h.y0
    have n2 := h.n2 n hn
    have hac := h.ac
    generalize hsl : Y.lv n = sl at *
    obtain ⟨a, q, cap⟩ := sl
    simp only at hlen n2
    have HL := hide (by omega : ((r.nd n).log).length = q)
    have hq : q ≤ 1000000 := by omega
    have hnp : (n : Int) < (r.parts : Int) + 1 := by omega
    generalize (r.nd n).log = l at *
    obtain ⟨i0, hii, hz0, hz1, hz2⟩ := info_parts Tryz.infoRec
    clear hll hlen h0
    rcases ho.2 with ⟨hv, hq0⟩ | ⟨g, cap', cur, hv, _⟩
    · injection hv with e1 e2 e3
      subst e1 e2 e3
      have hl0 : l = [] := List.length_eq_zero_iff.1 (unhide HL)
      subst hl0
      go_enter Tryz.func108, Tryz.ntmps108
      go_wp2_with fail
      refine (unhide HI).mono ?_
      rintro e w1 ⟨rfl, rfl⟩
      go_wp2_with (at_builtin; refine wpList_append_own_none rfl _ _ 33 rfl w1.heap.size 43 i0 2 Tryz.underlying33 hii (.slice none 0 0) 0 [] rfl (World.ownsRow_nil _ _ _ _) rfl ?_)
      go_ret2
      rw [unhide HP]
      exact ⟨none, 0, rfl, Below.refl _ _, World.ownsRow_nil _ _ _ _⟩
    · injection hv with e1 e2 e3
      subst e1 e3
      have hnews : ∀ j u, (recCells l)[j]? = some u → w.cell? ((⟨g, 0, none⟩ : Addr).add j) = some u := by
        intro j u hu
        have hq1 : 0 < q := by
          rw [← unhide HL]
          cases l with
          | nil => simp [recCells] at hu
          | cons x r => simp
        obtain ⟨g', hg', _, _, hc⟩ := ho.at hq1
        simp only [Option.some.injEq] at hg'
        injection hg' with hg'
        subst hg'
        rw [addr_add_at', Nat.zero_add]
        exact hc j u hu
      have HN := hide hnews
      have hl2 : (recCells l).length = q * 2 := by rw [recCells_length, unhide HL]
      have HL2 := hide hl2
      clear hnews hl2
      go_enter Tryz.func108, Tryz.ntmps108
      go_wp2_with fail
      refine (unhide HI).mono ?_
      rintro e w1 ⟨rfl, rfl⟩
      go_wp2_with (at_builtin; go_must (refine wpList_append_own _ rfl _ _ 33 rfl w1.heap.size 43 i0 (.agg #[.int .i64 0, .int .i64 0]) 2 16 Tryz.underlying33 hii hz0 hz1 hz2 rfl (by decide) (.slice none 0 0) 0 [] rfl (World.ownsRow_nil _ _ _ _) ⟨g, 0, none⟩ q _ (recCells l) rfl (unhide HL2) (unhide HN) (recCells_one _) (by unfold maxLen; omega) (by omega) (Nat.le_refl _) ?_; intro v3 w3 ho3 hg3 _; obtain ⟨sa, sc, rfl⟩ := ownsRow_sl ho3; have hb3 : Below w1.heap.size w1 w3 := (Below.refl _ _).grown hg3 (Nat.le_refl _) (by intro b hb; simp [Value.ownBlock] at hb)))
      go_ret2
      rw [unhide HP]
      refine ⟨sa, sc, ?_, hb3, ?_⟩
      · rw [unhide HL]; simp
      · rw [unhide HL]; simpa using ho3
  · have HI := hide (refIs_no h hk.wf i h0)
    have HP : Hid (r.st.logP i = ([], 1)) := if_neg h0
    clear h0
    go_enter Tryz.func108, Tryz.ntmps108
    go_wp2_with fail
    refine (unhide HI).mono ?_
    rintro e w1 ⟨rfl, rfl⟩
    go_wp2
    go_ret2
    rw [unhide HP]
    exact ⟨none, 0, rfl, Below.refl _ _, World.ownsRow_nil _ _ _ _⟩
end Go.Proofs.YtekbjlhbjcikdaaGreat
