/-
  L0, L1, L2, L3, L4, LA, one behind the other.
-/
import Derived.Test.YtekbjlhbjcikdaaGreatW24
import Derived.Test.YtekbjlhbjcikdaaGreatRM3
import Derived.Deep.RegionHeld3
/-
  Flying's and Log's answers have no spare room.
-/
namespace Go.Proofs.YtekbjlhbjcikdaaGreat
open Go.RowKit Acc Go.MuLone

set_option maxRecDepth 100000 in
set_option maxHeartbeats 1000000 in
theorem mailAll_cap {w : World} {L : Lay} {s : St} (h : Rep w L s) (hfl : s.fly.length ≤ 60) :
    Calls Tryz.prog 92 #[.pointer (some ⟨L.nb, 80, none⟩)] w fun e w' => ∃ a, e = .returned (.slice a s.fly.length s.fly.length) ∧ Below w.heap.size w w' ∧
      w'.ownsRow w.heap.size 109 4 (.slice a s.fly.length s.fly.length) s.fly.length (msgCells s.fly) := by
  have cf := h.cf
  have HD := hide (by have := h.om.len; rw [msgCells_length] at this; omega : L.fv.n = s.fly.length)
  have hdn : L.fv.n ≤ 60 := by rw [unhide HD]; exact hfl
  clear hfl
  obtain ⟨i0, hi, hz0, hz1, hz2⟩ := info_parts Tryz.infoMsg
  go_enter Tryz.func92, Tryz.ntmps92
  go_wp2_with (first
    | at_make; refine wpList_make_full _ rfl _ _ 53 rfl w.heap.size 109 i0 (.agg #[.int .i64 0, .int .i64 0, .int .i64 0, .int .i64 0]) 4 Tryz.underlying53 hi hz0 hz1 _ _ _ _ L.fv.n rfl rfl rfl rfl (by rw [hz2]; omega) (by unfold maxLen; omega) (Nat.le_refl _) ?_; intro w1 hown1 hgrow1; have hb1 : Below w.heap.size w w1 := (Below.refl _ _).grown hgrow1 (Nat.le_refl _) (by intro k hk; cases hk); have hR1 := h.below hb1; have cf1 := hR1.cf; clear cf hgrow1; generalize hmc : madeCells _ _ = mc at hown1; have HM := hide hmc; clear hmc
    | refine wpList_copy_whole rfl (.tmp 10) (.tmp 14) 53 53 rfl 109 i0 4 Tryz.underlying53 hi hz1 w.heap.size L.fv.n L.fv.n L.fv.a L.fv.cap rfl rfl mc 109 (msgCells s.fly) ?hg ?hcur (by rw [msgCells_length, unhide HD]) hR1.om.src (msgCells_one _) ?_)
  case hg => exact ownsRow_full hown1
  case hcur => have := hown1.1; simpa using this
  go_ret
  refine ⟨some ⟨w.heap.size, 0, none⟩, by rw [← unhide HD]; rfl, belowSetRow hb1 (Nat.le_refl _) _, ?_⟩
  rw [← unhide HD]
  exact ownsRow_setRow hown1 rfl (by rw [msgCells_length, unhide HD])

set_option maxRecDepth 100000 in
set_option maxHeartbeats 1000000 in
theorem nodesFlying_cap {w : World} {L : Lay} {s : St} (h : Rep w L s) (hfl : s.fly.length ≤ 60) :
    Calls Tryz.prog 59 #[.pointer (some ⟨L.nb, 0, none⟩)] w fun e w' => ∃ a, e = .returned (.slice a s.fly.length s.fly.length) ∧ Below w.heap.size w w' ∧
      w'.ownsRow w.heap.size 109 4 (.slice a s.fly.length s.fly.length) s.fly.length (msgCells s.fly) := by
  go_enter Tryz.func59, Tryz.ntmps59
  go_wp2_with (go_at_call 92; refine (mailAll_cap h hfl).mono ?_; rintro e w1 ⟨a, rfl, hb, hown⟩)
  go_ret
  exact ⟨a, rfl, hb, hown⟩

set_option maxRecDepth 100000 in
set_option maxHeartbeats 1000000 in
theorem flying_cap {w : World} {L : Lay} {s : St} (h : RepW w L s) (hfl : s.fly.length ≤ 60) :
    Calls Tryz.prog 29 #[.pointer (some ⟨L.wb, 0, none⟩)] w fun e w' => ∃ a, e = .returned (.slice a s.fly.length s.fly.length) ∧ ReadsW L w s w' ∧
      w'.ownsRow w.heap.size 109 4 (.slice a s.fly.length s.fly.length) s.fly.length (msgCells s.fly) := by
  have l0 := h.l0
  have lf := h.lf
  have l2 := h.l2
  have hR1 := h.locked (.int .i32 1)
  have l2' : (w.setCell ⟨L.wb, 0, none⟩ (.int .i32 1)).cell? ⟨L.wb, 2, none⟩ = some (.pointer (some ⟨L.nb, 0, none⟩)) := (World.cell?_setCell_other _ _ _ _ (by simp)).trans h.l2
  have hfn := hide (nodesFlying_cap hR1 hfl)
  have hwl := h.wlt
  go_enter_defers Tryz.func29, Tryz.ntmps29
  go_wp2_with (first
    | (go_at_call 45; refine (lock_free Tryz.muLib ⟨L.wb, 0, none⟩ _ l0 lf).mono ?_; rintro e w' ⟨rfl, rfl⟩)
    | (go_at_call 59; refine (unhide hfn).mono ?_; rintro e w2 ⟨a, rfl, hb, hown⟩))
  obtain ⟨k0, k2, kf, hLW⟩ := h.unread hb
  refine leaves_cons (f := 46) (args := #[.pointer (some ⟨L.wb, 0, none⟩)]) (by simp) (by simp [go_sem]) ?_
  refine (unlock_deferred Tryz.muLib ⟨L.wb, 0, none⟩ .returning _ k0 kf).mono ?_
  rintro e u' w'' ⟨rfl, rfl, rfl⟩
  refine ⟨_, results_tmp rfl _ _ _, a, rfl, hLW, ?_⟩
  have hown' : w2.ownsRow w.heap.size 109 4 (.slice a s.fly.length s.fly.length) s.fly.length (msgCells s.fly) := by simpa [World.setCell] using hown
  exact ownsRow_setCell_below hown' hwl _

set_option maxRecDepth 100000 in
set_option maxHeartbeats 1000000 in
theorem nodesLog_cap {w : World} {L : Lay} {s : St} (h : Rep w L s) (hf : Wf s) (n : Nat) (hn : n ≤ s.parts) :
    Calls Tryz.prog 48 #[.pointer (some ⟨L.nb, 0, none⟩), .int .i64 n] w fun e w' => ∃ a, e = .returned (.slice a (s.log n).length (s.log n).length) ∧ Below w.heap.size w w' ∧
      w'.ownsRow w.heap.size 43 2 (.slice a (s.log n).length (s.log n).length) (s.log n).length (recCells (s.log n)) := by
  have c0 := h.c0
  have ca := h.ca n hn
  have hp5 := hf.p5
  have hll := hf.ll n hn
  have ho := h.ol n hn
  have HD := hide (by have := ho.len; rw [recCells_length] at this; omega : (L.lv n).n = (s.log n).length)
  have hdn : (L.lv n).n ≤ 1000000 := by rw [unhide HD]; exact hll
  clear hll
  obtain ⟨i0, hi, hz0, hz1, hz2⟩ := info_parts Tryz.infoRec
  go_enter Tryz.func48, Tryz.ntmps48
  go_wp2_with (first
    | at_make; refine wpList_make_full _ rfl _ _ 33 rfl w.heap.size 43 i0 (.agg #[.int .i64 0, .int .i64 0]) 2 Tryz.underlying33 hi hz0 hz1 _ _ _ _ (L.lv n).n rfl rfl rfl rfl (by rw [hz2]; omega) (by unfold maxLen; omega) (Nat.le_refl _) ?_; intro w1 hown1 hgrow1; have hb1 : Below w.heap.size w w1 := (Below.refl _ _).grown hgrow1 (Nat.le_refl _) (by intro k hk; cases hk); have ho1 := (h.below hb1).ol n hn; clear hgrow1; generalize hmc : madeCells _ _ = mc at hown1; have HM := hide hmc; clear hmc
    | refine wpList_copy_whole rfl _ _ 33 33 rfl 43 i0 2 Tryz.underlying33 hi hz1 w.heap.size (L.lv n).n (L.lv n).n (L.lv n).a (L.lv n).cap rfl rfl mc 43 (recCells (s.log n)) ?hg ?hcur (by rw [recCells_length, unhide HD]) ho1.src (recCells_one _) ?_)
  case hg => exact ownsRow_full hown1
  case hcur => have := hown1.1; simpa using this
  go_ret
  refine ⟨some ⟨w.heap.size, 0, none⟩, by rw [← unhide HD]; rfl, belowSetRow hb1 (Nat.le_refl _) _, ?_⟩
  rw [← unhide HD]
  exact ownsRow_setRow hown1 rfl (by rw [recCells_length, unhide HD])

set_option maxRecDepth 100000 in
set_option maxHeartbeats 1000000 in
theorem log_cap {w : World} {L : Lay} {s : St} (h : RepW w L s) (hk : Ok s) (i : Int) :
    Calls Tryz.prog 18 #[.pointer (some ⟨L.wb, 0, none⟩), .int .i64 i] w fun e w' => ∃ a, e = .returned (.tuple #[.slice a (s.logP i).1.length (s.logP i).1.length, .int .i64 ((s.logP i).2 : Nat)]) ∧ ReadsW L w s w' ∧
      w'.ownsRow w.heap.size 43 2 (.slice a (s.logP i).1.length (s.logP i).1.length) (s.logP i).1.length (recCells (s.logP i).1) := by
  have l0 := h.l0
  have lf := h.lf
  have l2 := h.l2
  have hR1 := h.locked (.int .i32 1)
  have l2' : (w.setCell ⟨L.wb, 0, none⟩ (.int .i32 1)).cell? ⟨L.wb, 2, none⟩ = some (.pointer (some ⟨L.nb, 0, none⟩)) := (World.cell?_setCell_other _ _ _ _ (by simp)).trans h.l2
  have hwl := h.wlt
  have hha := hide (nodesHas_any hR1 hk.inv.wf i)
  by_cases h0 : 0 ≤ i ∧ i ≤ s.parts
  · obtain ⟨j, rfl⟩ : ∃ j : Nat, i = j := ⟨i.toNat, by omega⟩
    have hd : Hid ((decide (0 ≤ (j : Int)) && decide ((j : Int) < s.parts + 1)) = true) := by show _ = _; simp; omega
    have hP : Hid (s.logP j = (s.log j, 0)) := by show _ = _; unfold St.logP; rw [if_pos h0]; simp
    have hfn := hide (nodesLog_cap hR1 hk.inv.wf j (by omega))
    clear h0
    go_enter_defers Tryz.func18, Tryz.ntmps18
    go_wp2_with (first
      | (go_at_call 45; refine (lock_free Tryz.muLib ⟨L.wb, 0, none⟩ _ l0 lf).mono ?_; rintro e w' ⟨rfl, rfl⟩)
      | (go_at_call 47; refine (unhide hha).mono ?_; rintro e w2 ⟨rfl, rfl⟩; rw [unhide hd])
      | (go_at_call 48; refine (unhide hfn).mono ?_; rintro e w2 ⟨a, rfl, hb, hown⟩))
    obtain ⟨k0, k2, kf, hLW⟩ := h.unread hb
    refine leaves_cons (f := 46) (args := #[.pointer (some ⟨L.wb, 0, none⟩)]) (by simp) (by simp [go_sem]) ?_
    refine (unlock_deferred Tryz.muLib ⟨L.wb, 0, none⟩ .returning _ k0 kf).mono ?_
    rintro e u' w'' ⟨rfl, rfl, rfl⟩
    refine ⟨_, results_tmp2 rfl _ _ _, a, by rw [unhide hP]; rfl, hLW, ?_⟩
    rw [unhide hP]
    have hown' : w2.ownsRow w.heap.size 43 2 (.slice a (s.log j).length (s.log j).length) (s.log j).length (recCells (s.log j)) := by simpa [World.setCell] using hown
    exact ownsRow_setCell_below hown' hwl _
  · have hd : Hid ((decide (0 ≤ i) && decide (i < s.parts + 1)) = false) := by show _ = _; simp; omega
    have hP : Hid (s.logP i = ([], 1)) := by show _ = _; unfold St.logP; rw [if_neg h0]
    clear h0
    go_enter_defers Tryz.func18, Tryz.ntmps18
    go_wp2_with (first
      | (go_at_call 45; refine (lock_free Tryz.muLib ⟨L.wb, 0, none⟩ _ l0 lf).mono ?_; rintro e w' ⟨rfl, rfl⟩)
      | (go_at_call 47; refine (unhide hha).mono ?_; rintro e w2 ⟨rfl, rfl⟩; rw [unhide hd]))
    obtain ⟨k0, k2, kf, hLW⟩ := h.unread (Below.refl _ _)
    refine leaves_cons (f := 46) (args := #[.pointer (some ⟨L.wb, 0, none⟩)]) (by simp) (by simp [go_sem]) ?_
    refine (unlock_deferred Tryz.muLib ⟨L.wb, 0, none⟩ .returning _ k0 kf).mono ?_
    rintro e u' w'' ⟨rfl, rfl, rfl⟩
    refine ⟨_, results_tmp2 rfl _ _ _, none, by rw [unhide hP]; rfl, hLW, ?_⟩
    rw [unhide hP]
    exact World.ownsRow_nil _ _ _ _
end Go.Proofs.YtekbjlhbjcikdaaGreat
/-
  accordlaw's World in memory: worlds in pairs, lists that came out or were lent, marks.
-/
namespace Acc
structure LSt where
  ss : List (St × RSt)
  ms : List Int
  rs : List Int
  ne : Nat
  m0 : List Int
  m1 : List Int
def LSt.setX (S : LSt) (i : Nat) (s : St) : LSt := { S with ss := S.ss.modify i fun p => (s, p.2) }
def LSt.setY (S : LSt) (i : Nat) (r : RSt) : LSt := { S with ss := S.ss.modify i fun p => (p.1, r) }
end Acc
namespace Go.Proofs.YtekbjlhbjcikdaaGreat
open Go.RowKit Acc

inductive LTag where
  | main | arr (k : Nat) | kept | fresh | x (i : Nat) | y (i : Nat)
structure LLay where
  lb : Nat
  sv : Nat → Sl
  X : Nat → Lay
  Y : Nat → RLay
  ml : Nat → Sl
  rl : Nat → Sl
  el : Nat → Sl
  own : Nat → Option LTag

def pairCells (X : Nat → Lay) (Y : Nat → RLay) : Nat → List Value
  | 0 => []
  | n + 1 => pairCells X Y n ++ [.pointer (some ⟨(X n).wb, 0, none⟩), .pointer (some ⟨(Y n).yb, 0, none⟩)]
def intCells (l : List Int) : List Value := l.map fun m => .int .i64 m
def rep (pat : List Value) : Nat → List Value
  | 0 => []
  | n + 1 => rep pat n ++ pat
def msgPat (m : Int) : List Value := [.int .i64 m, .int .i64 m, .int .i64 m, .int .i64 m]
def recPat (m : Int) : List Value := [.int .i64 m, .int .i64 m]
def wrPat : List Value := [.int .i64 (-99), .int .i64 (-99), .int .i64 (-99)]
def ety : Nat → Nat
  | 0 => 105 | 1 => 53 | 2 => 33 | 3 => 52 | _ => 3
def esz : Nat → Nat
  | 0 => 2 | _ => 1
def cont (G : LLay) (S : LSt) : Nat → List Value
  | 0 => pairCells G.X G.Y S.ss.length
  | 1 => slCells G.ml S.ms.length
  | 2 => slCells G.rl S.rs.length
  | 3 => slCells G.el S.ne
  | 4 => intCells S.m0
  | _ => intCells S.m1

structure LRep (w : World) (G : LLay) (S : LSt) : Prop where
  c : ∀ k, k < 6 → w.cell? ⟨G.lb, k, none⟩ = some (.slice (G.sv k).a (G.sv k).n (G.sv k).cap)
  fz : ∀ k, w.frozen? ⟨G.lb, k, none⟩ = false
  o : ∀ k, k < 6 → Owns w (ety k) (esz k) (G.sv k) (cont G S k)
  xs : ∀ i p, S.ss[i]? = some p → RepW w (G.X i) p.1
  ys : ∀ i p, S.ss[i]? = some p → RRep w (G.Y i) p.2
  km : ∀ i m, S.ms[i]? = some m → Owns w 109 4 (G.ml i) (rep (msgPat m) (G.ml i).n)
  kr : ∀ i m, S.rs[i]? = some m → Owns w 43 2 (G.rl i) (rep (recPat m) (G.rl i).n)
  ke : ∀ i, i < S.ne → Owns w 74 3 (G.el i) (rep wrPat (G.el i).n)
  tm : G.own G.lb = some .main
  ta : ∀ k, k < 6 → ∀ a, (G.sv k).a = some a → G.own a.block = some (.arr k)
  tx : ∀ i p b t, S.ss[i]? = some p → own2 (G.X i) b = some t → G.own b = some (.x i)
  ty : ∀ i p b t, S.ss[i]? = some p → (G.Y i).own b = some t → G.own b = some (.y i)
  tkm : ∀ i m, S.ms[i]? = some m → ∀ a, (G.ml i).a = some a → G.own a.block = some .kept
  tkr : ∀ i m, S.rs[i]? = some m → ∀ a, (G.rl i).a = some a → G.own a.block = some .kept
  tke : ∀ i, i < S.ne → ∀ a, (G.el i).a = some a → G.own a.block = some .kept
  lt : ∀ b t, G.own b = some t → b < w.heap.size

theorem RepW.frame {w w' : World} {L : Lay} {s : St} (h : RepW w L s) (hs : w.heap.size ≤ w'.heap.size) (hb : ∀ b t, own2 L b = some t → w'.heap[b]? = w.heap[b]?) : RepW w' L s := by
  have hw : own2 L L.wb = some .world := by simp [own2]
  have hn : ∀ b t, L.own b = some t → own2 L b = some t := by
    intro b t hbt
    unfold own2
    rw [if_neg]
    · exact hbt
    · intro e; rw [e, h.fr] at hbt; cases hbt
  exact ⟨h.rep.frame hs fun b t hbt => hb b t (hn b t hbt), (World.cell?_of_block (hb _ _ hw)).trans h.l0, (World.cell?_of_block (hb _ _ hw)).trans h.l2, (World.frozen?_of_block (hb _ _ hw)).trans h.lf, h.fr⟩
theorem RepW.olt {w : World} {L : Lay} {s : St} (h : RepW w L s) {b : Nat} {t : Tag} (hb : own2 L b = some t) : b < w.heap.size := by
  unfold own2 at hb
  split at hb
  · rename_i e; rw [e]; exact h.wlt
  · exact h.rep.lt b t hb

/-- Nothing that it owns has turned (what is fresh may have). -/
theorem LRep.frame {w w' : World} {G : LLay} {S : LSt} (h : LRep w G S) (hs : w.heap.size ≤ w'.heap.size) (hb : ∀ b t, G.own b = some t → t ≠ .fresh → w'.heap[b]? = w.heap[b]?) : LRep w' G S where
  c := fun k hk => (World.cell?_of_block (hb _ _ h.tm (by simp))).trans (h.c k hk)
  fz := fun k => (World.frozen?_of_block (hb _ _ h.tm (by simp))).trans (h.fz k)
  o := fun k hk => (h.o k hk).frame fun a ha => hb _ _ (h.ta k hk a ha) (by simp)
  xs := fun i p hp => (h.xs i p hp).frame hs fun b t hbt => hb b _ (h.tx i p b t hp hbt) (by simp)
  ys := fun i p hp => (h.ys i p hp).frame hs fun b t hbt => hb b _ (h.ty i p b t hp hbt) (by simp)
  km := fun i m hm => (h.km i m hm).frame fun a ha => hb _ _ (h.tkm i m hm a ha) (by simp)
  kr := fun i m hm => (h.kr i m hm).frame fun a ha => hb _ _ (h.tkr i m hm a ha) (by simp)
  ke := fun i hi => (h.ke i hi).frame fun a ha => hb _ _ (h.tke i hi a ha) (by simp)
  tm := h.tm
  ta := h.ta
  tx := h.tx
  ty := h.ty
  tkm := h.tkm
  tkr := h.tkr
  tke := h.tke
  lt := fun b t hbt => Nat.lt_of_lt_of_le (h.lt b t hbt) hs
theorem LRep.below {w w' : World} {G : LLay} {S : LSt} (h : LRep w G S) (hb : Below w.heap.size w w') : LRep w' G S := h.frame hb.size fun b t hbt _ => hb.block b (h.lt b t hbt)
theorem LRep.free {w : World} {G : LLay} {S : LSt} (h : LRep w G S) {b : Nat} (hb : w.heap.size ≤ b) : G.own b = none := by
  cases ho : G.own b with
  | none => rfl
  | some t => have := h.lt b t ho; omega

def LLeaves (G : LLay) (w : World) (S' : LSt) (w' : World) : Prop := ∃ G', G'.lb = G.lb ∧ LRep w' G' S' ∧ Ext G.own w G'.own w'
theorem LLeaves.trans {G G1 : LLay} {w w1 w2 : World} {S : LSt} (hy : G1.lb = G.lb) (he : Ext G.own w G1.own w1) (h : LLeaves G1 w1 S w2) : LLeaves G w S w2 := by
  obtain ⟨G2, a, c, d⟩ := h
  exact ⟨G2, a.trans hy, c, he.trans d⟩
theorem LLeaves.below {G : LLay} {w w1 w2 : World} {S : LSt} (h : Below w.heap.size w w1) (k : LLeaves G w1 S w2) : LLeaves G w S w2 := LLeaves.trans rfl (Ext.of_below h) k
theorem LRep.same {w w' : World} {G : LLay} {S : LSt} (h : LRep w G S) (hb : Below w.heap.size w w') : LLeaves G w S w' := ⟨G, rfl, h.below hb, Ext.of_below hb⟩

/-- The tags, when the blocks that p picks bear the tag t, and all others what they bore. -/
def tagged (own : Nat → Option LTag) (p : Nat → Bool) (t : LTag) : Nat → Option LTag := fun b => if p b = true then some t else own b


theorem pairCells_congr (X X' : Nat → Lay) (Y Y' : Nat → RLay) (n : Nat) (h1 : ∀ i, i < n → (X i).wb = (X' i).wb) (h2 : ∀ i, i < n → (Y i).yb = (Y' i).yb) : pairCells X Y n = pairCells X' Y' n := by
  induction n with
  | zero => rfl
  | succ n ih => simp [pairCells, ih (fun i hi => h1 i (by omega)) (fun i hi => h2 i (by omega)), h1 n (by omega), h2 n (by omega)]

/-- One of the program's worlds has gone on. -/
theorem LRep.actX {w w' : World} {G : LLay} {S : LSt} (h : LRep w G S) (i : Nat) (p : St × RSt) (hp : S.ss[i]? = some p) {s' : St} (hl : LeavesW (G.X i) w s' w') :
    ∃ G', G'.lb = G.lb ∧ (∀ j, (G'.X j).wb = (G.X j).wb ∧ G'.Y j = G.Y j) ∧ LRep w' G' (S.setX i s') ∧ Ext G.own w G'.own w' := by
  obtain ⟨L', e1, _, hR, hE⟩ := hl
  have hn : ∀ b t, G.own b = some t → t ≠ .x i → own2 (G.X i) b = none := by
    intro b t hb ht
    cases ho : own2 (G.X i) b with
    | none => rfl
    | some u => rw [h.tx i p b u hp ho] at hb; injection hb with hb; exact absurd hb.symm ht
  have hk : ∀ b t, G.own b = some t → t ≠ .x i → w'.heap[b]? = w.heap[b]? ∧ own2 L' b = none := fun b t hb ht => hE.keep b (h.lt b t hb) (hn b t hb ht)
  have ho' : ∀ b t, G.own b = some t → t ≠ .x i → tagged G.own (fun b => (own2 L' b).isSome) (.x i) b = some t := by
    intro b t hb ht
    unfold tagged
    rw [if_neg (by simp only; rw [(hk b t hb ht).2]; simp)]
    exact hb
  have hlen : (S.setX i s').ss.length = S.ss.length := by simp [LSt.setX]
  have hget : ∀ j q, (S.setX i s').ss[j]? = some q → ∃ q0, S.ss[j]? = some q0 ∧ q.2 = q0.2 ∧ (j = i ∧ q.1 = s' ∨ j ≠ i ∧ q.1 = q0.1) := by
    intro j q hq
    simp only [LSt.setX, List.getElem?_modify] at hq
    cases hj : S.ss[j]? with
    | none => rw [hj] at hq; simp at hq
    | some q0 =>
      rw [hj] at hq
      by_cases e : i = j
      · subst e; simp at hq; subst hq; exact ⟨q0, rfl, rfl, .inl ⟨rfl, rfl⟩⟩
      · simp [e] at hq; subst hq; exact ⟨q0, rfl, rfl, .inr ⟨fun e' => e e'.symm, rfl⟩⟩
  refine ⟨{ G with X := fun j => if j = i then L' else G.X j, own := tagged G.own (fun b => (own2 L' b).isSome) (.x i) }, rfl, ?_, ?_, ?_⟩
  · intro j
    refine ⟨?_, rfl⟩
    by_cases e : j = i
    · subst e; simp only [if_true]; exact e1
    · simp only [if_neg e]
  · refine ⟨?_, ?_, ?_, ?_, ?_, ?_, ?_, ?_, ho' _ _ h.tm (by simp), ?_, ?_, ?_, ?_, ?_, ?_, ?_⟩
    · exact fun k hk6 => (World.cell?_of_block (hk _ _ h.tm (by simp)).1).trans (h.c k hk6)
    · exact fun k => (World.frozen?_of_block (hk _ _ h.tm (by simp)).1).trans (h.fz k)
    · intro k hk6
      have hc : cont { G with X := fun j => if j = i then L' else G.X j, own := tagged G.own (fun b => (own2 L' b).isSome) (.x i) } (S.setX i s') k = cont G S k := by
        match k with
        | 0 =>
          show pairCells _ _ _ = pairCells _ _ _
          rw [hlen]
          refine pairCells_congr _ _ _ _ _ (fun j _ => ?_) (fun _ _ => rfl)
          show (if j = i then L' else G.X j).wb = (G.X j).wb
          split
          · rename_i e; rw [e]; exact e1
          · rfl
        | 1 => rfl
        | 2 => rfl
        | 3 => rfl
        | 4 => rfl
        | k + 5 => rfl
      rw [hc]
      exact (h.o k hk6).frame fun a ha => (hk _ _ (h.ta k hk6 a ha) (by simp)).1
    · intro j q hq
      obtain ⟨q0, hq0, e2, hh⟩ := hget j q hq
      rcases hh with ⟨rfl, e⟩ | ⟨hne, e⟩
      · simp only [if_true]; rw [e]; exact hR
      · simp only [if_neg hne]; rw [e]
        exact (h.xs j q0 hq0).frame hE.size fun b t hbt => (hk b _ (h.tx j q0 b t hq0 hbt) (by simp [hne])).1
    · intro j q hq
      obtain ⟨q0, hq0, e2, _⟩ := hget j q hq
      rw [e2]
      exact (h.ys j q0 hq0).frame hE.size fun b t hbt => (hk b _ (h.ty j q0 b t hq0 hbt) (by simp)).1
    · exact fun j m hm => (h.km j m hm).frame fun a ha => (hk _ _ (h.tkm j m hm a ha) (by simp)).1
    · exact fun j m hm => (h.kr j m hm).frame fun a ha => (hk _ _ (h.tkr j m hm a ha) (by simp)).1
    · exact fun j hj => (h.ke j hj).frame fun a ha => (hk _ _ (h.tke j hj a ha) (by simp)).1
    · exact fun k hk6 a ha => ho' _ _ (h.ta k hk6 a ha) (by simp)
    · intro j q b t hq hbt
      obtain ⟨q0, hq0, _, hh⟩ := hget j q hq
      rcases hh with ⟨rfl, _⟩ | ⟨hne, _⟩
      · simp only [if_true] at hbt
        exact if_pos (by simp only; rw [hbt]; rfl)
      · simp only [if_neg hne] at hbt
        exact ho' _ _ (h.tx j q0 b t hq0 hbt) (by simp [hne])
    · intro j q b t hq hbt
      obtain ⟨q0, hq0, _, _⟩ := hget j q hq
      exact ho' _ _ (h.ty j q0 b t hq0 hbt) (by simp)
    · exact fun j m hm a ha => ho' _ _ (h.tkm j m hm a ha) (by simp)
    · exact fun j m hm a ha => ho' _ _ (h.tkr j m hm a ha) (by simp)
    · exact fun j hj a ha => ho' _ _ (h.tke j hj a ha) (by simp)
    · intro b t hbt
      simp only [tagged] at hbt
      split at hbt
      · rename_i hs
        cases ho : own2 L' b with
        | none => rw [ho] at hs; simp at hs
        | some u => exact hR.olt ho
      · exact Nat.lt_of_lt_of_le (h.lt b t hbt) hE.size
  · refine ⟨hE.os, hE.tape, hE.output, hE.size, fun b hb hn0 => ?_⟩
    have hn2 : own2 (G.X i) b = none := by
      cases ho : own2 (G.X i) b with
      | none => rfl
      | some u => rw [h.tx i p b u hp ho] at hn0; cases hn0
    obtain ⟨k1, k2⟩ := hE.keep b hb hn2
    refine ⟨k1, ?_⟩
    exact (if_neg (by simp only; rw [k2]; simp)).trans hn0

/-- One of the document's worlds has gone on. -/
theorem LRep.actY {w w' : World} {G : LLay} {S : LSt} (h : LRep w G S) (i : Nat) (p : St × RSt) (hp : S.ss[i]? = some p) {r' : RSt} (hl : RLeaves (G.Y i) w r' w') :
    ∃ G', G'.lb = G.lb ∧ (∀ j, G'.X j = G.X j ∧ (G'.Y j).yb = (G.Y j).yb) ∧ LRep w' G' (S.setY i r') ∧ Ext G.own w G'.own w' := by
  obtain ⟨L', e1, hR, hE⟩ := hl
  have hn : ∀ b t, G.own b = some t → t ≠ .y i → (G.Y i).own b = none := by
    intro b t hb ht
    cases ho : (G.Y i).own b with
    | none => rfl
    | some u => rw [h.ty i p b u hp ho] at hb; injection hb with hb; exact absurd hb.symm ht
  have hk : ∀ b t, G.own b = some t → t ≠ .y i → w'.heap[b]? = w.heap[b]? ∧ L'.own b = none := fun b t hb ht => hE.keep b (h.lt b t hb) (hn b t hb ht)
  have ho' : ∀ b t, G.own b = some t → t ≠ .y i → tagged G.own (fun b => (L'.own b).isSome) (.y i) b = some t := by
    intro b t hb ht
    unfold tagged
    rw [if_neg (by simp only; rw [(hk b t hb ht).2]; simp)]
    exact hb
  have hlen : (S.setY i r').ss.length = S.ss.length := by simp [LSt.setY]
  have hget : ∀ j q, (S.setY i r').ss[j]? = some q → ∃ q0, S.ss[j]? = some q0 ∧ q.1 = q0.1 ∧ (j = i ∧ q.2 = r' ∨ j ≠ i ∧ q.2 = q0.2) := by
    intro j q hq
    simp only [LSt.setY, List.getElem?_modify] at hq
    cases hj : S.ss[j]? with
    | none => rw [hj] at hq; simp at hq
    | some q0 =>
      rw [hj] at hq
      by_cases e : i = j
      · subst e; simp at hq; subst hq; exact ⟨q0, rfl, rfl, .inl ⟨rfl, rfl⟩⟩
      · simp [e] at hq; subst hq; exact ⟨q0, rfl, rfl, .inr ⟨fun e' => e e'.symm, rfl⟩⟩
  refine ⟨{ G with Y := fun j => if j = i then L' else G.Y j, own := tagged G.own (fun b => (L'.own b).isSome) (.y i) }, rfl, ?_, ?_, ?_⟩
  · intro j
    refine ⟨rfl, ?_⟩
    by_cases e : j = i
    · subst e; simp only [if_true]; exact e1.1
    · simp only [if_neg e]
  · refine ⟨?_, ?_, ?_, ?_, ?_, ?_, ?_, ?_, ho' _ _ h.tm (by simp), ?_, ?_, ?_, ?_, ?_, ?_, ?_⟩
    · exact fun k hk6 => (World.cell?_of_block (hk _ _ h.tm (by simp)).1).trans (h.c k hk6)
    · exact fun k => (World.frozen?_of_block (hk _ _ h.tm (by simp)).1).trans (h.fz k)
    · intro k hk6
      have hc : cont { G with Y := fun j => if j = i then L' else G.Y j, own := tagged G.own (fun b => (L'.own b).isSome) (.y i) } (S.setY i r') k = cont G S k := by
        match k with
        | 0 =>
          show pairCells _ _ _ = pairCells _ _ _
          rw [hlen]
          refine pairCells_congr _ _ _ _ _ (fun _ _ => rfl) (fun j _ => ?_)
          show (if j = i then L' else G.Y j).yb = (G.Y j).yb
          split
          · rename_i e; rw [e]; exact e1.1
          · rfl
        | 1 => rfl
        | 2 => rfl
        | 3 => rfl
        | 4 => rfl
        | k + 5 => rfl
      rw [hc]
      exact (h.o k hk6).frame fun a ha => (hk _ _ (h.ta k hk6 a ha) (by simp)).1
    · intro j q hq
      obtain ⟨q0, hq0, e2, _⟩ := hget j q hq
      rw [e2]
      exact (h.xs j q0 hq0).frame hE.size fun b t hbt => (hk b _ (h.tx j q0 b t hq0 hbt) (by simp)).1
    · intro j q hq
      obtain ⟨q0, hq0, e2, hh⟩ := hget j q hq
      rcases hh with ⟨rfl, e⟩ | ⟨hne, e⟩
      · simp only [if_true]; rw [e]; exact hR
      · simp only [if_neg hne]; rw [e]
        exact (h.ys j q0 hq0).frame hE.size fun b t hbt => (hk b _ (h.ty j q0 b t hq0 hbt) (by simp [hne])).1
    · exact fun j m hm => (h.km j m hm).frame fun a ha => (hk _ _ (h.tkm j m hm a ha) (by simp)).1
    · exact fun j m hm => (h.kr j m hm).frame fun a ha => (hk _ _ (h.tkr j m hm a ha) (by simp)).1
    · exact fun j hj => (h.ke j hj).frame fun a ha => (hk _ _ (h.tke j hj a ha) (by simp)).1
    · exact fun k hk6 a ha => ho' _ _ (h.ta k hk6 a ha) (by simp)
    · intro j q b t hq hbt
      obtain ⟨q0, hq0, _, _⟩ := hget j q hq
      exact ho' _ _ (h.tx j q0 b t hq0 hbt) (by simp)
    · intro j q b t hq hbt
      obtain ⟨q0, hq0, _, hh⟩ := hget j q hq
      rcases hh with ⟨rfl, _⟩ | ⟨hne, _⟩
      · simp only [if_true] at hbt
        exact if_pos (by simp only; rw [hbt]; rfl)
      · simp only [if_neg hne] at hbt
        exact ho' _ _ (h.ty j q0 b t hq0 hbt) (by simp [hne])
    · exact fun j m hm a ha => ho' _ _ (h.tkm j m hm a ha) (by simp)
    · exact fun j m hm a ha => ho' _ _ (h.tkr j m hm a ha) (by simp)
    · exact fun j hj a ha => ho' _ _ (h.tke j hj a ha) (by simp)
    · intro b t hbt
      simp only [tagged] at hbt
      split at hbt
      · rename_i hs
        cases ho : L'.own b with
        | none => rw [ho] at hs; simp at hs
        | some u => exact hR.lt b u ho
      · exact Nat.lt_of_lt_of_le (h.lt b t hbt) hE.size
  · refine ⟨hE.os, hE.tape, hE.output, hE.size, fun b hb hn0 => ?_⟩
    have hn2 : (G.Y i).own b = none := by
      cases ho : (G.Y i).own b with
      | none => rfl
      | some u => rw [h.ty i p b u hp ho] at hn0; cases hn0
    obtain ⟨k1, k2⟩ := hE.keep b hb hn2
    refine ⟨k1, ?_⟩
    exact (if_neg (by simp only; rw [k2]; simp)).trans hn0

/-- A call of the program's that only reads. -/
theorem LRep.readX {w w' : World} {G : LLay} {S : LSt} (h : LRep w G S) (i : Nat) (p : St × RSt) (hp : S.ss[i]? = some p) (hl : ReadsW (G.X i) w p.1 w') : LRep w' G S ∧ Ext G.own w G.own w' := by
  obtain ⟨hR, hE⟩ := hl
  have hn : ∀ b t, G.own b = some t → t ≠ .x i → own2 (G.X i) b = none := by
    intro b t hb ht
    cases ho : own2 (G.X i) b with
    | none => rfl
    | some u => rw [h.tx i p b u hp ho] at hb; injection hb with hb; exact absurd hb.symm ht
  have hk : ∀ b t, G.own b = some t → t ≠ .x i → w'.heap[b]? = w.heap[b]? := fun b t hb ht => (hE.keep b (h.lt b t hb) (hn b t hb ht)).1
  refine ⟨⟨?_, ?_, ?_, ?_, ?_, ?_, ?_, ?_, h.tm, h.ta, h.tx, h.ty, h.tkm, h.tkr, h.tke, fun b t hbt => Nat.lt_of_lt_of_le (h.lt b t hbt) hE.size⟩, hE.os, hE.tape, hE.output, hE.size, fun b hb hn0 => ?_⟩
  · exact fun k hk6 => (World.cell?_of_block (hk _ _ h.tm (by simp))).trans (h.c k hk6)
  · exact fun k => (World.frozen?_of_block (hk _ _ h.tm (by simp))).trans (h.fz k)
  · exact fun k hk6 => (h.o k hk6).frame fun a ha => hk _ _ (h.ta k hk6 a ha) (by simp)
  · intro j q hq
    by_cases e : j = i
    · subst e; rw [hp] at hq; injection hq with hq; subst hq; exact hR
    · exact (h.xs j q hq).frame hE.size fun b t hbt => hk b _ (h.tx j q b t hq hbt) (by simp [e])
  · exact fun j q hq => (h.ys j q hq).frame hE.size fun b t hbt => hk b _ (h.ty j q b t hq hbt) (by simp)
  · exact fun j m hm => (h.km j m hm).frame fun a ha => hk _ _ (h.tkm j m hm a ha) (by simp)
  · exact fun j m hm => (h.kr j m hm).frame fun a ha => hk _ _ (h.tkr j m hm a ha) (by simp)
  · exact fun j hj => (h.ke j hj).frame fun a ha => hk _ _ (h.tke j hj a ha) (by simp)
  · have hn2 : own2 (G.X i) b = none := by
      cases ho : own2 (G.X i) b with
      | none => rfl
      | some u => rw [h.tx i p b u hp ho] at hn0; cases hn0
    exact ⟨(hE.keep b hb hn2).1, hn0⟩
end Go.Proofs.YtekbjlhbjcikdaaGreat
/-
  accordlaw's World in memory: tags anew; an array more in one of its lists.
-/
namespace Go.Proofs.YtekbjlhbjcikdaaGreat
open Go.RowKit Acc

theorem LRep.retagged {w : World} {G : LLay} {S : LSt} (h : LRep w G S) (p : Nat → Bool) (t : LTag) (hp : ∀ b, p b = true → (G.own b = none ∨ G.own b = some .fresh) ∧ b < w.heap.size) : LRep w { G with own := tagged G.own p t } S := by
  have ho : ∀ b u, G.own b = some u → u ≠ .fresh → tagged G.own p t b = some u := by
    intro b u hb hu
    refine (if_neg ?_).trans hb
    intro hpb
    rcases (hp b hpb).1 with h1 | h1 <;> rw [h1] at hb
    · cases hb
    · injection hb with hb; exact hu hb.symm
  refine ⟨h.c, h.fz, h.o, h.xs, h.ys, h.km, h.kr, h.ke, ho _ _ h.tm (by simp), fun k hk a ha => ho _ _ (h.ta k hk a ha) (by simp), fun i q b u hq hb => ho _ _ (h.tx i q b u hq hb) (by simp), fun i q b u hq hb => ho _ _ (h.ty i q b u hq hb) (by simp), fun i m hm a ha => ho _ _ (h.tkm i m hm a ha) (by simp), fun i m hm a ha => ho _ _ (h.tkr i m hm a ha) (by simp), fun i hi a ha => ho _ _ (h.tke i hi a ha) (by simp), ?_⟩
  intro b u hb
  simp only [tagged] at hb
  split at hb
  · rename_i hpb; exact (hp b hpb).2
  · exact h.lt b u hb
/-- New tags on blocks that were not there before hold nothing up. -/
theorem Ext.retagged {o o' : Nat → Option LTag} {w w' : World} (he : Ext o w o' w') (p : Nat → Bool) (t : LTag) (hp : ∀ b, p b = true → w.heap.size ≤ b ∨ o b ≠ none) : Ext o w (tagged o' p t) w' :=
  ⟨he.os, he.tape, he.output, he.size, fun b hb hn => ⟨(he.keep b hb hn).1, (if_neg (by
    intro hpb
    rcases hp b hpb with h1 | h1
    · omega
    · exact h1 hn)).trans (he.keep b hb hn).2⟩⟩

theorem Upd.of_many {τ : Type} {w W w3 : World} {own : Nat → Option τ} (hown : ∀ b t, own b = some t → b < w.heap.size) {t : τ} {sa : Option Addr} {n cap k : Nat} (ht : ∀ a, sa = some a → own a.block = some t)
    (hb : Below w.heap.size w W) (hk : k < w3.heap.size) (g2 : W.grownBy w3 (Value.slice sa n cap).ownBlock) (g3 : sa = some ⟨k, 0, none⟩ ∨ W.heap.size ≤ k) : Upd w w3 own t k where
  os := g2.os.trans hb.os
  tape := g2.tape.trans hb.tape
  output := g2.output.trans hb.output
  size := Nat.le_trans hb.size g2.size
  keep := fun b u hbu hu => by
    have hlt := hown b u hbu
    rw [g2.block b (Nat.lt_of_lt_of_le hlt hb.size) ?_, hb.block b hlt]
    intro e
    cases sa with
    | none => simp [Value.ownBlock] at e
    | some a =>
      simp only [Value.ownBlock, Option.some.injEq] at e
      subst e
      have := ht a rfl
      rw [hbu] at this
      injection this with this
      exact hu this
  other := fun b hlt hbn => by
    rw [g2.block b (Nat.lt_of_lt_of_le hlt hb.size) ?_, hb.block b hlt]
    intro e
    cases sa with
    | none => simp [Value.ownBlock] at e
    | some a =>
      simp only [Value.ownBlock, Option.some.injEq] at e
      subst e
      have := ht a rfl
      rw [hbn] at this
      cases this
  new := by
    rcases g3 with g3 | g3
    · exact .inl (ht _ g3)
    · refine .inr ⟨?_, Nat.le_trans hb.size g3⟩
      cases hk : own k with
      | none => rfl
      | some u => have := hown k u hk; have := hb.size; omega
  klt := hk

/-- One of the six lists has another array; all that the new contents name is there, and tagged. -/
theorem LRep.grown {w w3 : World} {G : LLay} {S : LSt} (h : LRep w G S) (k : Nat) (hk : k < 6) {g n cap' : Nat} (hu : Upd w w3 G.own (.arr k) g) (G' : LLay) (S' : LSt)
    (e1 : G'.lb = G.lb) (e2 : G'.sv = fun j => if j = k then ⟨some ⟨g, 0, none⟩, n, cap'⟩ else G.sv j) (e3 : G'.own = retag G.own g (.arr k))
    (ho : w3.ownsRow 0 (ety k) (esz k) (.slice (some ⟨g, 0, none⟩) n cap') n (cont G' S' k)) (hc : ∀ j, j < 6 → j ≠ k → cont G' S' j = cont G S j)
    (hx : ∀ i p, S'.ss[i]? = some p → RepW w (G'.X i) p.1 ∧ RRep w (G'.Y i) p.2 ∧ (∀ b t, own2 (G'.X i) b = some t → G.own b = some (.x i)) ∧ ∀ b t, (G'.Y i).own b = some t → G.own b = some (.y i))
    (hm : ∀ i m, S'.ms[i]? = some m → Owns w 109 4 (G'.ml i) (rep (msgPat m) (G'.ml i).n) ∧ ∀ a, (G'.ml i).a = some a → G.own a.block = some .kept)
    (hr : ∀ i m, S'.rs[i]? = some m → Owns w 43 2 (G'.rl i) (rep (recPat m) (G'.rl i).n) ∧ ∀ a, (G'.rl i).a = some a → G.own a.block = some .kept)
    (he : ∀ i, i < S'.ne → Owns w 74 3 (G'.el i) (rep wrPat (G'.el i).n) ∧ ∀ a, (G'.el i).a = some a → G.own a.block = some .kept) :
    LRep (w3.setCell ⟨G.lb, k, none⟩ (.slice (some ⟨g, 0, none⟩) n cap')) G' S' ∧ Ext G.own w G'.own (w3.setCell ⟨G.lb, k, none⟩ (.slice (some ⟨g, 0, none⟩) n cap')) := by
  have hk2 := hu.tagged
  have bm : w3.heap[G.lb]? = w.heap[G.lb]? := hu.keep _ _ h.tm (by simp)
  have glb : g ≠ G.lb := by
    intro e; rw [e] at hk2
    rcases hk2 with hk2 | hk2 <;> rw [h.tm] at hk2 <;> cases hk2
  have hbk : ∀ b t, G.own b = some t → t ≠ .arr k → t ≠ .main → (w3.setCell ⟨G.lb, k, none⟩ (.slice (some ⟨g, 0, none⟩) n cap')).heap[b]? = w.heap[b]? := fun b t hb h1 h2 =>
    (block_setCell (fun e => by simp only at e; rw [e, h.tm] at hb; injection hb with hb; exact h2 hb.symm)).trans (hu.keep b t hb h1)
  have hsz : w.heap.size ≤ (w3.setCell ⟨G.lb, k, none⟩ (.slice (some ⟨g, 0, none⟩) n cap')).heap.size := by have := hu.size; simpa [World.setCell] using this
  have old : ∀ b t, G.own b = some t → t ≠ .arr k → G'.own b = some t := fun b t hb ht => by rw [e3]; exact retag_old hk2 hb ht
  refine ⟨⟨?_, ?_, ?_, ?_, ?_, ?_, ?_, ?_, ?_, ?_, ?_, ?_, ?_, ?_, ?_, ?_⟩, ?_⟩
  · intro j hj
    rw [e1, e2]
    by_cases e : j = k
    · subst e
      simp only [if_true]
      exact cell_set_same ((World.cell?_of_block (a := ⟨G.lb, j, none⟩) bm).trans (h.c j hj))
    · simp only [if_neg e]
      exact (cell_set_ne e).trans ((World.cell?_of_block (a := ⟨G.lb, j, none⟩) bm).trans (h.c j hj))
  · intro j
    rw [e1]
    simpa using (World.frozen?_of_block (a := ⟨G.lb, j, none⟩) bm).trans (h.fz j)
  · intro j hj
    by_cases e : j = k
    · subst e
      rw [e2]
      simp only [if_true]
      exact (Owns.of_row ho).frame fun a ha => by simp only [Option.some.injEq] at ha; subst ha; exact block_setCell glb
    · rw [hc j hj e, e2]
      simp only [if_neg e]
      exact (h.o j hj).frame fun a ha => hbk _ _ (h.ta j hj a ha) (by simp [e]) (by simp)
  · exact fun i p hp => (hx i p hp).1.frame hsz fun b t hbt => hbk b _ ((hx i p hp).2.2.1 b t hbt) (by simp) (by simp)
  · exact fun i p hp => (hx i p hp).2.1.frame hsz fun b t hbt => hbk b _ ((hx i p hp).2.2.2 b t hbt) (by simp) (by simp)
  · exact fun i m hmm => (hm i m hmm).1.frame fun a ha => hbk _ _ ((hm i m hmm).2 a ha) (by simp) (by simp)
  · exact fun i m hmm => (hr i m hmm).1.frame fun a ha => hbk _ _ ((hr i m hmm).2 a ha) (by simp) (by simp)
  · exact fun i hi => (he i hi).1.frame fun a ha => hbk _ _ ((he i hi).2 a ha) (by simp) (by simp)
  · rw [e1]; exact old _ _ h.tm (by simp)
  · intro j hj a ha
    rw [e2] at ha
    by_cases e : j = k
    · subst e
      simp only [if_true, Option.some.injEq] at ha
      subst ha
      rw [e3]; simp [retag]
    · simp only [if_neg e] at ha
      exact old _ _ (h.ta j hj a ha) (by simp [e])
  · exact fun i p b t hp hb => old _ _ ((hx i p hp).2.2.1 b t hb) (by simp)
  · exact fun i p b t hp hb => old _ _ ((hx i p hp).2.2.2 b t hb) (by simp)
  · exact fun i m hmm a ha => old _ _ ((hm i m hmm).2 a ha) (by simp)
  · exact fun i m hmm a ha => old _ _ ((hr i m hmm).2 a ha) (by simp)
  · exact fun i hi a ha => old _ _ ((he i hi).2 a ha) (by simp)
  · rw [e3]
    exact retag_lt h.lt hsz (by have := hu.klt; simpa [World.setCell] using this)
  · rw [e3]
    exact hu.ext ⟨G.lb, k, none⟩ h.tm _

theorem LRep.hx {w : World} {G : LLay} {S : LSt} (h : LRep w G S) : ∀ i p, S.ss[i]? = some p → RepW w (G.X i) p.1 ∧ RRep w (G.Y i) p.2 ∧ (∀ b t, own2 (G.X i) b = some t → G.own b = some (.x i)) ∧ ∀ b t, (G.Y i).own b = some t → G.own b = some (.y i) :=
  fun i p hp => ⟨h.xs i p hp, h.ys i p hp, fun b t hb => h.tx i p b t hp hb, fun b t hb => h.ty i p b t hp hb⟩
theorem LRep.hm {w : World} {G : LLay} {S : LSt} (h : LRep w G S) : ∀ i m, S.ms[i]? = some m → Owns w 109 4 (G.ml i) (rep (msgPat m) (G.ml i).n) ∧ ∀ a, (G.ml i).a = some a → G.own a.block = some .kept := fun i m hm => ⟨h.km i m hm, h.tkm i m hm⟩
theorem LRep.hr {w : World} {G : LLay} {S : LSt} (h : LRep w G S) : ∀ i m, S.rs[i]? = some m → Owns w 43 2 (G.rl i) (rep (recPat m) (G.rl i).n) ∧ ∀ a, (G.rl i).a = some a → G.own a.block = some .kept := fun i m hm => ⟨h.kr i m hm, h.tkr i m hm⟩
theorem LRep.he {w : World} {G : LLay} {S : LSt} (h : LRep w G S) : ∀ i, i < S.ne → Owns w 74 3 (G.el i) (rep wrPat (G.el i).n) ∧ ∀ a, (G.el i).a = some a → G.own a.block = some .kept := fun i hi => ⟨h.ke i hi, h.tke i hi⟩

theorem rep_length (pat : List Value) (n : Nat) : (rep pat n).length = n * pat.length := by
  induction n with
  | zero => simp [rep]
  | succ n ih => simp [rep, ih, Nat.add_mul]
theorem rep_add (pat : List Value) (n m : Nat) : rep pat (n + m) = rep pat n ++ rep pat m := by
  induction m with
  | zero => simp [rep]
  | succ m ih => rw [← Nat.add_assoc]; simp [rep, ih]
theorem rep_get (pat : List Value) (n i j : Nat) (hi : i < n) (hj : j < pat.length) : (rep pat n)[i * pat.length + j]? = pat[j]? := by
  induction n with
  | zero => omega
  | succ n ih =>
    by_cases e : i < n
    · have hlt : i * pat.length + j < (rep pat n).length := by
        rw [rep_length]
        have : (i + 1) * pat.length ≤ n * pat.length := Nat.mul_le_mul_right _ e
        rw [Nat.add_mul, Nat.one_mul] at this
        omega
      simp only [rep]
      rw [List.getElem?_append_left hlt]
      exact ih e
    · have : i = n := by omega
      subst this
      simp only [rep]
      rw [List.getElem?_append_right (by rw [rep_length]; omega), rep_length]
      congr 1; omega
end Go.Proofs.YtekbjlhbjcikdaaGreat
/-
  accordlaw: walks of pick, num, over, sameMessages, sameRecords.
-/
namespace Go.Proofs.YtekbjlhbjcikdaaGreat
open Go.RowKit Acc

def lpick (c n : Int) : Int := (if c < 0 then -(c + 1) else c) % n
theorem lpick_range (c n : Int) (h : 0 < n) : 0 ≤ lpick c n ∧ lpick c n < n := ⟨Int.emod_nonneg _ (by omega), Int.emod_lt_of_pos _ h⟩

set_option maxHeartbeats 400000 in
theorem lawPick_any (c n : Int) (w : World) (h0 : 0 < n) (h1 : n ≤ 100000000) (hc : -9223372036854775808 ≤ c) (hc' : c ≤ 9223372036854775807) :
    Calls Tryz.prog 67 #[.int .i64 c, .int .i64 n] w fun e w' => e = .returned (.int .i64 (lpick c n)) ∧ w' = w := by
  by_cases h : c < 0
  · have hp : Hid (lpick c n = -((c + 1).tmod n)) := by
      show _ = _
      unfold lpick
      rw [if_pos h, ← Int.neg_tmod, Int.tmod_eq_emod_of_nonneg (by omega)]
    go_enter Tryz.func67, Tryz.ntmps67
    go_wp2
    go_ret
    exact ⟨by rw [hp.out]; rfl, rfl⟩
  · have hp : Hid (lpick c n = c % n) := by
      show _ = _
      unfold lpick
      rw [if_neg h]
    go_enter Tryz.func67, Tryz.ntmps67
    go_wp2
    go_ret
    exact ⟨by rw [hp.out]; rfl, rfl⟩

set_option maxHeartbeats 400000 in
theorem lawNum_any (k : Nat) (w : World) (_hk : k ≤ 100) :
    Calls Tryz.prog 66 #[.int .i64 k] w fun e w' => e = .returned (.int .i64 k) ∧ w' = w := by
  go_enter Tryz.func66, Tryz.ntmps66
  go_wp2
  go_ret
  exact ⟨rfl, rfl⟩

set_option maxHeartbeats 400000 in
theorem lawOver_any (w : World) :
    Calls Tryz.prog 71 #[] w fun e w' => e = .returned (.agg #[.int .i64 (-99), .int .i64 (-99), .int .i64 (-99)]) ∧ Below w.heap.size w w' := by
  go_enter Tryz.func71, Tryz.ntmps71
  go_wp2
  exact bodyPost_ret (v := .agg #[.int .i64 (-99), .int .i64 (-99), .int .i64 (-99)]) (by simp [results, Tryz.results71, go_sem]) rfl ⟨rfl, below_alloc _ _⟩

set_option maxRecDepth 100000 in
set_option maxHeartbeats 1000000 in
theorem sameMessages_any (w : World) (l : List Msg) (a b : Option Addr) (n c d : Nat) (hn : l.length = n) (h60 : n ≤ 1000) (ha : Owns w 109 4 ⟨a, n, c⟩ (msgCells l)) (hb : Owns w 109 4 ⟨b, n, d⟩ (msgCells l)) :
    Calls Tryz.prog 106 #[.slice a n c, .slice b n d] w fun e w' => e = .returned (.bool true) ∧ Below w.heap.size w w' := by
  have HN := hide hn
  clear hn
  go_enter Tryz.func106, Tryz.ntmps106
  go_wp2_with fail
  go_loopw [5] (fun i wr => ∃ j : Nat, j ≤ n ∧ i = .int .i64 (j : Int) ∧ Below w.heap.size w wr) (fun i _ => n - (intOf i).toNat)
  case atStart => exact ⟨0, Nat.zero_le _, rfl, Below.refl _ _⟩
  case round =>
    obtain ⟨j, hj, rfl, hbl⟩ := hrel
    by_cases hlt : j < n
    · have hx : l[j]? = some (l[j]'(by rw [unhide HN]; exact hlt)) := List.getElem?_eq_getElem _
      generalize l[j]'(by rw [unhide HN]; exact hlt) = x at hx
      obtain ⟨ga, ea, hca, _, hcA⟩ := ha.at (by simp; omega)
      obtain ⟨gb, eb, hcb, _, hcB⟩ := hb.at (by simp; omega)
      simp only at ea eb hca hcb
      subst ea eb
      have la := ha.lt _ rfl
      have lb := hb.lt _ rfl
      simp only at la lb
      obtain ⟨m0, m1, m2, m3⟩ := msgCells_get l j x hx
      have p0 := (hbl.cell (p := ⟨ga, 4 * j, none⟩) la).trans (hcA _ _ m0)
      have p1 := (hbl.cell (p := ⟨ga, 4 * j + 1, none⟩) la).trans (hcA _ _ m1)
      have p2 := (hbl.cell (p := ⟨ga, 4 * j + 2, none⟩) la).trans (hcA _ _ m2)
      have p3 := (hbl.cell (p := ⟨ga, 4 * j + 3, none⟩) la).trans (hcA _ _ m3)
      have q0 := (hbl.cell (p := ⟨gb, 4 * j, none⟩) lb).trans (hcB _ _ m0)
      have q1 := (hbl.cell (p := ⟨gb, 4 * j + 1, none⟩) lb).trans (hcB _ _ m1)
      have q2 := (hbl.cell (p := ⟨gb, 4 * j + 2, none⟩) lb).trans (hcB _ _ m2)
      have q3 := (hbl.cell (p := ⟨gb, 4 * j + 3, none⟩) lb).trans (hcB _ _ m3)
      rw [show 4 * j = j * 4 from by omega] at p0 p1 p2 p3 q0 q1 q2 q3
      have hji : (j : Int) < (n : Int) := by omega
      clear hcA hcB m0 m1 m2 m3 ha hb hx
      go_wp2_with fail
      go_region
      go_wp2
      exact ⟨⟨j + 1, by omega, by go_num, hbl.drew⟩, by simp [intOf]; omega⟩
    · go_wp2
      go_ret
      exact ⟨rfl, hbl⟩

set_option maxRecDepth 100000 in
set_option maxHeartbeats 1000000 in
theorem sameRecords_any (w : World) (l : List (Nat × Nat)) (a b : Option Addr) (n c d : Nat) (hn : l.length = n) (h60 : n ≤ 1000) (ha : Owns w 43 2 ⟨a, n, c⟩ (recCells l)) (hb : Owns w 43 2 ⟨b, n, d⟩ (recCells l)) :
    Calls Tryz.prog 109 #[.slice a n c, .slice b n d] w fun e w' => e = .returned (.bool true) ∧ Below w.heap.size w w' := by
  have HN := hide hn
  clear hn
  go_enter Tryz.func109, Tryz.ntmps109
  go_wp2_with fail
  go_loopw [5] (fun i wr => ∃ j : Nat, j ≤ n ∧ i = .int .i64 (j : Int) ∧ Below w.heap.size w wr) (fun i _ => n - (intOf i).toNat)
  case atStart => exact ⟨0, Nat.zero_le _, rfl, Below.refl _ _⟩
  case round =>
    obtain ⟨j, hj, rfl, hbl⟩ := hrel
    by_cases hlt : j < n
    · have hx : l[j]? = some (l[j]'(by rw [unhide HN]; exact hlt)) := List.getElem?_eq_getElem _
      generalize l[j]'(by rw [unhide HN]; exact hlt) = x at hx
      obtain ⟨ga, ea, hca, _, hcA⟩ := ha.at (by simp; omega)
      obtain ⟨gb, eb, hcb, _, hcB⟩ := hb.at (by simp; omega)
      simp only at ea eb hca hcb
      subst ea eb
      have la := ha.lt _ rfl
      have lb := hb.lt _ rfl
      simp only at la lb
      obtain ⟨m0, m1⟩ := recCells_get l j x hx
      have p0 := (hbl.cell (p := ⟨ga, 2 * j, none⟩) la).trans (hcA _ _ m0)
      have p1 := (hbl.cell (p := ⟨ga, 2 * j + 1, none⟩) la).trans (hcA _ _ m1)
      have q0 := (hbl.cell (p := ⟨gb, 2 * j, none⟩) lb).trans (hcB _ _ m0)
      have q1 := (hbl.cell (p := ⟨gb, 2 * j + 1, none⟩) lb).trans (hcB _ _ m1)
      rw [show 2 * j = j * 2 from by omega] at p0 p1 q0 q1
      have hji : (j : Int) < (n : Int) := by omega
      clear hcA hcB m0 m1 ha hb hx
      go_wp2_with fail
      go_region
      go_wp2
      exact ⟨⟨j + 1, by omega, by go_num, hbl.drew⟩, by simp [intOf]; omega⟩
    · go_wp2
      go_ret
      exact ⟨rfl, hbl⟩
end Go.Proofs.YtekbjlhbjcikdaaGreat
/-
  accordlaw: walk of looks.
-/
namespace Acc
/-- What is in step: the marks are those of the lists; numbers that fit. -/
structure LSync (S : LSt) (N : Nat) : Prop where
  m : S.m0 = S.ms
  r : S.m1 = S.rs
  lm : S.ms.length ≤ N
  lr : S.rs.length ≤ N
  le : S.ne ≤ N
  lw : S.ss.length ≤ N
  hN : N ≤ 8000000
end Acc
namespace Go.Proofs.YtekbjlhbjcikdaaGreat
open Go.RowKit Acc

theorem intCells_get (l : List Int) (i : Nat) (m : Int) (h : l[i]? = some m) : (intCells l)[i]? = some (.int .i64 m) := by simp [intCells, h]
theorem intCells_length (l : List Int) : (intCells l).length = l.length := by simp [intCells]
theorem pairCells_length (X : Nat → Lay) (Y : Nat → RLay) (n : Nat) : (pairCells X Y n).length = n * 2 := by
  induction n with
  | zero => rfl
  | succ n ih => simp [pairCells, ih]; omega
theorem pairCells_get (X : Nat → Lay) (Y : Nat → RLay) (n i : Nat) (h : i < n) : (pairCells X Y n)[i * 2]? = some (.pointer (some ⟨(X i).wb, 0, none⟩)) ∧ (pairCells X Y n)[i * 2 + 1]? = some (.pointer (some ⟨(Y i).yb, 0, none⟩)) := by
  induction n with
  | zero => omega
  | succ n ih =>
    by_cases hi : i < n
    · simp only [pairCells]
      rw [List.getElem?_append_left (by rw [pairCells_length]; omega), List.getElem?_append_left (by rw [pairCells_length]; omega)]
      exact ih hi
    · have : i = n := by omega
      subst this
      simp only [pairCells]
      rw [List.getElem?_append_right (by rw [pairCells_length]; omega), List.getElem?_append_right (by rw [pairCells_length]; omega), pairCells_length]
      rw [show i * 2 - i * 2 = 0 from by omega, show i * 2 + 1 - i * 2 = 1 from by omega]
      exact ⟨rfl, rfl⟩

theorem LRep.n0 {w : World} {G : LLay} {S : LSt} (h : LRep w G S) : (G.sv 0).n = S.ss.length := by have := (h.o 0 (by omega)).len; rw [show cont G S 0 = pairCells G.X G.Y S.ss.length from rfl, pairCells_length] at this; simp [esz] at this; omega
theorem LRep.n1 {w : World} {G : LLay} {S : LSt} (h : LRep w G S) : (G.sv 1).n = S.ms.length := by have := (h.o 1 (by omega)).len; rw [show cont G S 1 = slCells G.ml S.ms.length from rfl, slCells_length] at this; simp [esz] at this; omega
theorem LRep.n2 {w : World} {G : LLay} {S : LSt} (h : LRep w G S) : (G.sv 2).n = S.rs.length := by have := (h.o 2 (by omega)).len; rw [show cont G S 2 = slCells G.rl S.rs.length from rfl, slCells_length] at this; simp [esz] at this; omega
theorem LRep.n3 {w : World} {G : LLay} {S : LSt} (h : LRep w G S) : (G.sv 3).n = S.ne := by have := (h.o 3 (by omega)).len; rw [show cont G S 3 = slCells G.el S.ne from rfl, slCells_length] at this; simp [esz] at this; omega
theorem LRep.n4 {w : World} {G : LLay} {S : LSt} (h : LRep w G S) : (G.sv 4).n = S.m0.length := by have := (h.o 4 (by omega)).len; rw [show cont G S 4 = intCells S.m0 from rfl, intCells_length] at this; simp [esz] at this; omega
theorem LRep.n5 {w : World} {G : LLay} {S : LSt} (h : LRep w G S) : (G.sv 5).n = S.m1.length := by have := (h.o 5 (by omega)).len; rw [show cont G S 5 = intCells S.m1 from rfl, intCells_length] at this; simp [esz] at this; omega

/-- What looks reads of message list number i. -/
theorem LRep.atM {w : World} {G : LLay} {S : LSt} {N : Nat} (h : LRep w G S) (hs : LSync S N) (i : Nat) (hi : i < S.ms.length) :
    ∃ g1 g4 m s, (w.cell? ⟨G.lb, 1, none⟩ = some (.slice (some ⟨g1, 0, none⟩) S.ms.length (G.sv 1).cap) ∧ S.ms.length ≤ (G.sv 1).cap) ∧ (w.cell? ⟨G.lb, 4, none⟩ = some (.slice (some ⟨g4, 0, none⟩) S.ms.length (G.sv 4).cap) ∧ S.ms.length ≤ (G.sv 4).cap) ∧
      w.cell? ⟨g4, i, none⟩ = some (.int .i64 m) ∧ w.cell? ⟨g1, i, none⟩ = some (.slice s.a s.n s.cap) ∧ Owns w 109 4 s (rep (msgPat m) s.n) := by
  have hm : S.ms[i]? = some S.ms[i] := List.getElem?_eq_getElem _
  generalize S.ms[i] = m at hm
  have h1 := h.c 1 (by omega)
  have h4 := h.c 4 (by omega)
  rw [h.n1] at h1
  rw [h.n4, hs.m] at h4
  obtain ⟨g1, e1, k1, _, f1⟩ := (h.o 1 (by omega)).at (by rw [h.n1]; omega)
  obtain ⟨g4, e4, k4, _, f4⟩ := (h.o 4 (by omega)).at (by rw [h.n4, hs.m]; omega)
  rw [e1] at h1
  rw [e4] at h4
  rw [h.n1] at k1
  rw [h.n4, hs.m] at k4
  exact ⟨g1, g4, m, G.ml i, ⟨h1, k1⟩, ⟨h4, k4⟩, f4 i _ (intCells_get _ _ _ (by rw [hs.m]; exact hm)), f1 i _ (slCells_get _ _ _ hi), h.km i m hm⟩
theorem LRep.atR {w : World} {G : LLay} {S : LSt} {N : Nat} (h : LRep w G S) (hs : LSync S N) (i : Nat) (hi : i < S.rs.length) :
    ∃ g1 g4 m s, (w.cell? ⟨G.lb, 2, none⟩ = some (.slice (some ⟨g1, 0, none⟩) S.rs.length (G.sv 2).cap) ∧ S.rs.length ≤ (G.sv 2).cap) ∧ (w.cell? ⟨G.lb, 5, none⟩ = some (.slice (some ⟨g4, 0, none⟩) S.rs.length (G.sv 5).cap) ∧ S.rs.length ≤ (G.sv 5).cap) ∧
      w.cell? ⟨g4, i, none⟩ = some (.int .i64 m) ∧ w.cell? ⟨g1, i, none⟩ = some (.slice s.a s.n s.cap) ∧ Owns w 43 2 s (rep (recPat m) s.n) := by
  have hm : S.rs[i]? = some S.rs[i] := List.getElem?_eq_getElem _
  generalize S.rs[i] = m at hm
  have h1 := h.c 2 (by omega)
  have h4 := h.c 5 (by omega)
  rw [h.n2] at h1
  rw [h.n5, hs.r] at h4
  obtain ⟨g1, e1, k1, _, f1⟩ := (h.o 2 (by omega)).at (by rw [h.n2]; omega)
  obtain ⟨g4, e4, k4, _, f4⟩ := (h.o 5 (by omega)).at (by rw [h.n5, hs.r]; omega)
  rw [e1] at h1
  rw [e4] at h4
  rw [h.n2] at k1
  rw [h.n5, hs.r] at k4
  exact ⟨g1, g4, m, G.rl i, ⟨h1, k1⟩, ⟨h4, k4⟩, f4 i _ (intCells_get _ _ _ (by rw [hs.r]; exact hm)), f1 i _ (slCells_get _ _ _ hi), h.kr i m hm⟩
theorem LRep.atE {w : World} {G : LLay} {S : LSt} (h : LRep w G S) (i : Nat) (hi : i < S.ne) :
    ∃ g1 s, (w.cell? ⟨G.lb, 3, none⟩ = some (.slice (some ⟨g1, 0, none⟩) S.ne (G.sv 3).cap) ∧ S.ne ≤ (G.sv 3).cap) ∧ w.cell? ⟨g1, i, none⟩ = some (.slice s.a s.n s.cap) ∧ Owns w 74 3 s (rep wrPat s.n) := by
  have h1 := h.c 3 (by omega)
  rw [h.n3] at h1
  obtain ⟨g1, e1, k1, _, f1⟩ := (h.o 3 (by omega)).at (by rw [h.n3]; omega)
  rw [e1] at h1
  rw [h.n3] at k1
  exact ⟨g1, G.el i, ⟨h1, k1⟩, f1 i _ (slCells_get _ _ _ hi), h.ke i hi⟩
/-- Cells of a list that its owner has written full. -/
theorem rep_cells {w : World} {e size : Nat} {s : Sl} {pat : List Value} (h : Owns w e size s (rep pat s.n)) (hp : pat.length = size) (k : Nat) (hk : k < s.n) : ∃ g, s.a = some ⟨g, 0, none⟩ ∧ s.n ≤ s.cap ∧ ∀ j u, pat[j]? = some u → w.cell? ⟨g, k * size + j, none⟩ = some u := by
  obtain ⟨g, e1, k1, _, f1⟩ := h.at (by omega)
  refine ⟨g, e1, k1, fun j u hu => f1 _ _ ?_⟩
  have hj := (List.getElem?_eq_some_iff.1 hu).1
  rw [← hp, rep_get pat s.n k j hk hj]; exact hu

set_option maxRecDepth 100000 in
set_option maxHeartbeats 4000000 in
theorem looks_any {w : World} {G : LLay} {S : LSt} {N : Nat} (h : LRep w G S) (hs : LSync S N) :
    Calls Tryz.prog 36 #[.pointer (some ⟨G.lb, 0, none⟩)] w fun e w' => e = .returned (.bool true) ∧ Below w.heap.size w w' := by
  have hN := hs.hN
  have lm := hs.lm
  have lr := hs.lr
  have le := hs.le
  have hC1 : ∀ wr, Below w.heap.size w wr → wr.cell? ⟨G.lb, 1, none⟩ = some (.slice (G.sv 1).a S.ms.length (G.sv 1).cap) := fun wr hb => by have := (h.below hb).c 1 (by omega); rw [h.n1] at this; exact this
  have hC2 : ∀ wr, Below w.heap.size w wr → wr.cell? ⟨G.lb, 2, none⟩ = some (.slice (G.sv 2).a S.rs.length (G.sv 2).cap) := fun wr hb => by have := (h.below hb).c 2 (by omega); rw [h.n2] at this; exact this
  have hC3 : ∀ wr, Below w.heap.size w wr → wr.cell? ⟨G.lb, 3, none⟩ = some (.slice (G.sv 3).a S.ne (G.sv 3).cap) := fun wr hb => by have := (h.below hb).c 3 (by omega); rw [h.n3] at this; exact this
  go_enter Tryz.func36, Tryz.ntmps36
  go_wp2_with fail
  have HC1 := hide hC1
  have HC2 := hide hC2
  have HC3 := hide hC3
  have HM := hide (fun wr hb i hi => (h.below (w' := wr) hb).atM hs i hi)
  have HR := hide (fun wr hb i hi => (h.below (w' := wr) hb).atR hs i hi)
  have HE := hide (fun wr hb i hi => (h.below (w' := wr) hb).atE i hi)
  clear hC1 hC2 hC3
  go_loopw [3] (fun i wr => ∃ j : Nat, j ≤ S.ms.length ∧ i = .int .i64 (j : Int) ∧ Below w.heap.size w wr) (fun i _ => S.ms.length - (intOf i).toNat)
  case atStart => exact ⟨0, Nat.zero_le _, rfl, Below.refl _ _⟩
  case round =>
    obtain ⟨j, hj, rfl, hb⟩ := hrel
    have c1 := unhide HC1 _ hb
    by_cases hlt : j < S.ms.length
    · obtain ⟨g1, g4, m, s, ⟨x1, y1⟩, ⟨x4, y4⟩, z4, z1, hown⟩ := unhide HM wr hb j hlt
      have hji : (j : Int) < (S.ms.length : Int) := by omega
      have hsn := hown.cap_le
      unfold maxLen at hsn
      have l0 := World.block_lt_of_cell? wr _ x1
      have l1 := World.block_lt_of_cell? wr _ z1
      clear c1
      go_wp2_with fail
      go_loopw [5] (fun i wq => ∃ k : Nat, k ≤ s.n ∧ i = .int .i64 (k : Int) ∧ Below wr.heap.size wr wq) (fun i _ => s.n - (intOf i).toNat)
      case atStart => exact ⟨0, Nat.zero_le _, rfl, Below.refl _ _⟩
      case round =>
        rename World => wq
        obtain ⟨k, hk, rfl, hbq⟩ := hrel
        have x1 := (hbq.cell (p := ⟨G.lb, 1, none⟩) l0).trans x1
        have z1 := (hbq.cell (p := ⟨g1, j, none⟩) l1).trans z1
        by_cases hlk : k < s.n
        · have hownq := hown.frame fun a ha => hbq.block _ (hown.lt a ha)
          obtain ⟨g, ea, hcp, hcell⟩ := rep_cells hownq rfl k hlk
          have p0 : wq.cell? ⟨g, k * 4, none⟩ = some (.int .i64 m) := hcell 0 _ rfl
          have p1 := hcell 1 _ rfl
          have p2 := hcell 2 _ rfl
          have p3 := hcell 3 _ rfl
          rw [ea] at z1
          have hki : (k : Int) < (s.n : Int) := by omega
          clear hownq hcell hown
          go_wp2
          exact ⟨⟨k + 1, by omega, by go_num, hbq⟩, by simp [intOf]; omega⟩
        · have hki : ¬ (k : Int) < (s.n : Int) := by omega
          clear hown
          go_wp2
          exact ⟨⟨j + 1, by omega, by go_num, hb.more hbq⟩, by simp [intOf]; omega⟩
    · have hji : ¬ (j : Int) < (S.ms.length : Int) := by omega
      go_wp2_with fail
      clear c1 hji hlt hj
      rename World => wA
      go_loopw [6] (fun i wr => ∃ j : Nat, j ≤ S.rs.length ∧ i = .int .i64 (j : Int) ∧ Below w.heap.size w wr) (fun i _ => S.rs.length - (intOf i).toNat)
      case atStart => exact ⟨0, Nat.zero_le _, rfl, hb⟩
      case round =>
        clear hb
        obtain ⟨j, hj, rfl, hb⟩ := hrel
        have c1 := unhide HC2 _ hb
        by_cases hlt : j < S.rs.length
        · obtain ⟨g1, g4, m, s, ⟨x1, y1⟩, ⟨x4, y4⟩, z4, z1, hown⟩ := unhide HR wr hb j hlt
          have hji : (j : Int) < (S.rs.length : Int) := by omega
          have hsn := hown.cap_le
          unfold maxLen at hsn
          have l0 := World.block_lt_of_cell? wr _ x1
          have l1 := World.block_lt_of_cell? wr _ z1
          clear c1
          go_wp2_with fail
          go_loopw [8] (fun i wq => ∃ k : Nat, k ≤ s.n ∧ i = .int .i64 (k : Int) ∧ Below wr.heap.size wr wq) (fun i _ => s.n - (intOf i).toNat)
          case atStart => exact ⟨0, Nat.zero_le _, rfl, Below.refl _ _⟩
          case round =>
            rename World => wq
            obtain ⟨k, hk, rfl, hbq⟩ := hrel
            have x1 := (hbq.cell (p := ⟨G.lb, 2, none⟩) l0).trans x1
            have z1 := (hbq.cell (p := ⟨g1, j, none⟩) l1).trans z1
            by_cases hlk : k < s.n
            · have hownq := hown.frame fun a ha => hbq.block _ (hown.lt a ha)
              obtain ⟨g, ea, hcp, hcell⟩ := rep_cells hownq rfl k hlk
              have p0 : wq.cell? ⟨g, k * 2, none⟩ = some (.int .i64 m) := hcell 0 _ rfl
              have p1 := hcell 1 _ rfl
              rw [ea] at z1
              have hki : (k : Int) < (s.n : Int) := by omega
              clear hownq hcell hown
              go_wp2
              exact ⟨⟨k + 1, by omega, by go_num, hbq⟩, by simp [intOf]; omega⟩
            · have hki : ¬ (k : Int) < (s.n : Int) := by omega
              clear hown
              go_wp2
              exact ⟨⟨j + 1, by omega, by go_num, hb.more hbq⟩, by simp [intOf]; omega⟩
        · have hji : ¬ (j : Int) < (S.rs.length : Int) := by omega
          go_wp2_with fail
          clear c1 hji hlt hj
          rename World => wB
          go_loopw [9] (fun i wr => ∃ j : Nat, j ≤ S.ne ∧ i = .int .i64 (j : Int) ∧ Below w.heap.size w wr) (fun i _ => S.ne - (intOf i).toNat)
          case atStart => exact ⟨0, Nat.zero_le _, rfl, hb⟩
          case round =>
            clear hb
            obtain ⟨j, hj, rfl, hb⟩ := hrel
            have c1 := unhide HC3 _ hb
            by_cases hlt : j < S.ne
            · obtain ⟨g1, s, ⟨x1, y1⟩, z1, hown⟩ := unhide HE wr hb j hlt
              have hji : (j : Int) < (S.ne : Int) := by omega
              have hsn := hown.cap_le
              unfold maxLen at hsn
              have l0 := World.block_lt_of_cell? wr _ x1
              have l1 := World.block_lt_of_cell? wr _ z1
              clear c1
              go_wp2_with fail
              go_loopw [10] (fun i wq => ∃ k : Nat, k ≤ s.n ∧ i = .int .i64 (k : Int) ∧ Below wr.heap.size wr wq) (fun i _ => s.n - (intOf i).toNat)
              case atStart => exact ⟨0, Nat.zero_le _, rfl, Below.refl _ _⟩
              case round =>
                rename World => wq
                obtain ⟨k, hk, rfl, hbq⟩ := hrel
                have x1 := (hbq.cell (p := ⟨G.lb, 3, none⟩) l0).trans x1
                have z1 := (hbq.cell (p := ⟨g1, j, none⟩) l1).trans z1
                by_cases hlk : k < s.n
                · have hownq := hown.frame fun a ha => hbq.block _ (hown.lt a ha)
                  obtain ⟨g, ea, hcp, hcell⟩ := rep_cells hownq rfl k hlk
                  have p0 : wq.cell? ⟨g, k * 3, none⟩ = some (.int .i64 (-99)) := hcell 0 _ rfl
                  have p1 := hcell 1 _ rfl
                  have p2 := hcell 2 _ rfl
                  rw [ea] at z1
                  have hki : (k : Int) < (s.n : Int) := by omega
                  have k0 := World.block_lt_of_cell? wq _ x1
                  have k1 := World.block_lt_of_cell? wq _ z1
                  have k2 := World.block_lt_of_cell? wq _ p0
                  clear hownq hcell hown
                  have HOV := hide (fun W => lawOver_any W)
                  have HCC := hide (fun w5 (hb5 : Below wq.drew.heap.size wq.drew w5) => And.intro ((hb5.cell (p := ⟨G.lb, 3, none⟩) k0).trans x1) (And.intro ((hb5.cell (p := ⟨g1, j, none⟩) k1).trans z1) (And.intro ((hb5.cell (p := ⟨g, k * 3, none⟩) k2).trans p0) (And.intro ((hb5.cell (p := ⟨g, k * 3 + 1, none⟩) k2).trans p1) ((hb5.cell (p := ⟨g, k * 3 + 2, none⟩) k2).trans p2)))))
                  go_wp2_with fail
                  go_region_held3 (fun w' => w'.cell? ⟨G.lb, 3, none⟩ = some (.slice (some ⟨g1, 0, none⟩) S.ne (G.sv 3).cap) ∧ w'.cell? ⟨g1, j, none⟩ = some (.slice (some ⟨g, 0, none⟩) s.n s.cap) ∧ w'.cell? ⟨g, k * 3, none⟩ = some (.int .i64 (-99)) ∧ w'.cell? ⟨g, k * 3 + 1, none⟩ = some (.int .i64 (-99)) ∧ w'.cell? ⟨g, k * 3 + 2, none⟩ = some (.int .i64 (-99))) (go_keep)
                    (first
                      | (go_at_call 71; refine (unhide HOV _).mono ?_; rintro e w5 ⟨rfl, hb5⟩; obtain ⟨a0, a1, a2, a3, a4⟩ := unhide HCC w5 hb5))
                  go_wp2
                  exact ⟨⟨k + 1, by omega, by go_num, hbq.more ((Below.refl _ _).drew.more hb5)⟩, by simp [intOf]; omega⟩
                · have hki : ¬ (k : Int) < (s.n : Int) := by omega
                  clear hown
                  go_wp2
                  exact ⟨⟨j + 1, by omega, by go_num, hb.more hbq⟩, by simp [intOf]; omega⟩
            · have hji : ¬ (j : Int) < (S.ne : Int) := by omega
              go_wp2
              go_ret
              exact ⟨rfl, hb⟩
end Go.Proofs.YtekbjlhbjcikdaaGreat
/-
  accordlaw's World in memory: lists that are added.
-/
namespace Go.Proofs.YtekbjlhbjcikdaaGreat
open Go.RowKit Acc

/-- Is it the block of one of these slices? -/
def inSls (ts : List Sl) : Nat → Bool := fun b => ts.any fun t => match t.a with | some x => x.block == b | none => false
theorem inSls_of {ts : List Sl} {t : Sl} (ht : t ∈ ts) {x : Addr} (hx : t.a = some x) : inSls ts x.block = true := by
  unfold inSls
  rw [List.any_eq_true]
  exact ⟨t, ht, by rw [hx]; simp⟩
theorem inSls_iff {ts : List Sl} {b : Nat} (h : inSls ts b = true) : ∃ t x, t ∈ ts ∧ t.a = some x ∧ x.block = b := by
  unfold inSls at h
  rw [List.any_eq_true] at h
  obtain ⟨t, ht, hx⟩ := h
  cases ha : t.a with
  | none => rw [ha] at hx; simp at hx
  | some x => rw [ha] at hx; exact ⟨t, x, ht, ha, by simpa using hx⟩
/-- The function that goes on by a list. -/
def more {α : Type} (f : Nat → α) (n : Nat) (ts : List α) : Nat → α := fun i => if i < n then f i else (ts[i - n]?).getD (f i)
theorem more_old {α : Type} (f : Nat → α) (n : Nat) (ts : List α) (i : Nat) (h : i < n) : more f n ts i = f i := if_pos h
theorem more_new {α : Type} (f : Nat → α) (n : Nat) (ts : List α) (i : Nat) (t : α) (h : ts[i]? = some t) : more f n ts (n + i) = t := by
  unfold more; rw [if_neg (by omega), show n + i - n = i from by omega, h]; rfl
def sls (ts : List Sl) : List Value := ts.map fun t => .slice t.a t.n t.cap
theorem slCells_more (f : Nat → Sl) (n : Nat) (ts : List Sl) : slCells (more f n ts) (n + ts.length) = slCells f n ++ sls ts := by
  have key : ∀ k, k ≤ ts.length → slCells (more f n ts) (n + k) = slCells f n ++ sls (ts.take k) := by
    intro k hk
    induction k with
    | zero =>
      simp only [Nat.add_zero, List.take_zero, sls, List.map_nil, List.append_nil]
      exact slCells_congr _ _ _ fun i hi => more_old f n ts i hi
    | succ k ih =>
      have hk' : ts[k]? = some (ts[k]'(by omega)) := List.getElem?_eq_getElem _
      rw [← Nat.add_assoc]
      simp only [slCells]
      rw [ih (by omega), more_new f n ts k _ hk', List.take_add_one, hk']
      simp only [sls, List.map_append, Option.toList, List.map_cons, List.map_nil, List.append_assoc]
  have := key ts.length (Nat.le_refl _)
  rw [List.take_length] at this
  exact this
theorem get_more {α : Type} (l ts : List α) (i : Nat) (x : α) (h : (l ++ ts)[i]? = some x) : (i < l.length ∧ l[i]? = some x) ∨ ∃ k, i = l.length + k ∧ ts[k]? = some x := by
  by_cases hi : i < l.length
  · left; rw [List.getElem?_append_left hi] at h; exact ⟨hi, h⟩
  · right; rw [List.getElem?_append_right (by omega)] at h; exact ⟨i - l.length, by omega, h⟩

/-- Message lists are added, all of one mark. -/
theorem LRep.addM {w W w4 : World} {G : LLay} {S : LSt} (h : LRep w G S) (m : Int) (ts : List Sl) (mm : List Int) (hmm : mm.length = ts.length) (hm1 : ∀ x, x ∈ mm → x = m) (ho : ∀ t, t ∈ ts → Owns w 109 4 t (rep (msgPat m) t.n)) (hf : ∀ t x, t ∈ ts → t.a = some x → G.own x.block = none ∨ G.own x.block = some .fresh)
    (hb : Below w.heap.size w W) {k cap : Nat} (o4 : w4.ownsRow 0 53 1 (.slice (some ⟨k, 0, none⟩) ((G.sv 1).n + ts.length) cap) ((G.sv 1).n + ts.length) (slCells G.ml S.ms.length ++ sls ts))
    (g4 : W.grownBy w4 (Value.slice (G.sv 1).a (G.sv 1).n (G.sv 1).cap).ownBlock) (p4 : (Value.slice (G.sv 1).a (G.sv 1).n (G.sv 1).cap).ownBlock = some k ∨ k = W.heap.size) (q4 : k < w4.heap.size) :
    ∃ G', G'.lb = G.lb ∧ G'.sv 4 = G.sv 4 ∧ LRep (w4.setCell ⟨G.lb, 1, none⟩ (.slice (some ⟨k, 0, none⟩) ((G.sv 1).n + ts.length) cap)) G' { S with ms := S.ms ++ mm } ∧ Ext (tagged G.own (inSls ts) .kept) w G'.own (w4.setCell ⟨G.lb, 1, none⟩ (.slice (some ⟨k, 0, none⟩) ((G.sv 1).n + ts.length) cap)) := by
  have h1 := h.retagged (inSls ts) .kept (fun b hbb => by
    obtain ⟨t, x, ht, hx, e⟩ := inSls_iff hbb
    subst e
    exact ⟨hf t x ht hx, (ho t ht).lt x hx⟩)
  have hn1 : (G.sv 1).n = S.ms.length := h.n1
  have hu : Upd w w4 (tagged G.own (inSls ts) .kept) (.arr 1) k := Upd.of_many h1.lt (sa := (G.sv 1).a) (n := (G.sv 1).n) (cap := (G.sv 1).cap) (h1.ta 1 (by omega)) hb q4 g4 (by
    rcases p4 with p4 | p4
    · left
      rcases (h.o 1 (by omega)).2 with ⟨hv, _⟩ | ⟨g, c, cur, hv, _⟩
      · injection hv with e1; rw [e1] at p4; simp [Value.ownBlock] at p4
      · injection hv with e1; rw [e1] at p4 ⊢; simp only [Value.ownBlock, Option.some.injEq] at p4; rw [p4]
    · right; omega)
  have hG := h1.grown 1 (by omega) hu { G with sv := fun j => if j = 1 then ⟨some ⟨k, 0, none⟩, (G.sv 1).n + ts.length, cap⟩ else G.sv j, ml := more G.ml S.ms.length ts, own := retag (tagged G.own (inSls ts) .kept) k (.arr 1) } { S with ms := S.ms ++ mm } rfl rfl rfl
    (by
      show w4.ownsRow 0 _ 1 _ _ (slCells (more G.ml S.ms.length ts) (S.ms ++ mm).length)
      rw [List.length_append, hmm, slCells_more]; exact o4)
    (by
      intro j h6 hj
      match j, hj with
      | 0, _ => rfl
      | 1, hj => exact absurd rfl hj
      | 2, _ => rfl
      | 3, _ => rfl
      | 4, _ => rfl
      | j + 5, _ => rfl)
    h1.hx
    (by
      intro i x hx
      rcases get_more _ _ _ _ hx with ⟨hi, hx⟩ | ⟨q, rfl, hx2⟩
      · show Owns w _ 4 (more G.ml S.ms.length ts i) (rep (msgPat x) (more G.ml S.ms.length ts i).n) ∧ ∀ a, (more G.ml S.ms.length ts i).a = some a → _
        rw [more_old _ _ _ _ hi]
        exact h1.hm i x hx
      · have hq : q < ts.length := by rw [← hmm]; exact (List.getElem?_eq_some_iff.1 hx2).1
        have ht : ts[q]? = some ts[q] := List.getElem?_eq_getElem hq
        have hxm := hm1 x (List.mem_of_getElem? hx2)
        show Owns w _ 4 (more G.ml S.ms.length ts (S.ms.length + q)) (rep (msgPat x) (more G.ml S.ms.length ts (S.ms.length + q)).n) ∧ ∀ a, (more G.ml S.ms.length ts (S.ms.length + q)).a = some a → _
        rw [more_new _ _ _ _ _ ht, hxm]
        have hmem : ts[q] ∈ ts := List.getElem_mem hq
        exact ⟨ho _ hmem, fun a ha => if_pos (inSls_of hmem ha)⟩)
    h1.hr h1.he
  refine ⟨_, ?_, ?_, hG.1, hG.2⟩ <;> rfl
/-- Record lists are added, all of one mark. -/
theorem LRep.addR {w W w4 : World} {G : LLay} {S : LSt} (h : LRep w G S) (m : Int) (ts : List Sl) (mm : List Int) (hmm : mm.length = ts.length) (hm1 : ∀ x, x ∈ mm → x = m) (ho : ∀ t, t ∈ ts → Owns w 43 2 t (rep (recPat m) t.n)) (hf : ∀ t x, t ∈ ts → t.a = some x → G.own x.block = none ∨ G.own x.block = some .fresh)
    (hb : Below w.heap.size w W) {k cap : Nat} (o4 : w4.ownsRow 0 33 1 (.slice (some ⟨k, 0, none⟩) ((G.sv 2).n + ts.length) cap) ((G.sv 2).n + ts.length) (slCells G.rl S.rs.length ++ sls ts))
    (g4 : W.grownBy w4 (Value.slice (G.sv 2).a (G.sv 2).n (G.sv 2).cap).ownBlock) (p4 : (Value.slice (G.sv 2).a (G.sv 2).n (G.sv 2).cap).ownBlock = some k ∨ k = W.heap.size) (q4 : k < w4.heap.size) :
    ∃ G', G'.lb = G.lb ∧ G'.sv 5 = G.sv 5 ∧ LRep (w4.setCell ⟨G.lb, 2, none⟩ (.slice (some ⟨k, 0, none⟩) ((G.sv 2).n + ts.length) cap)) G' { S with rs := S.rs ++ mm } ∧ Ext (tagged G.own (inSls ts) .kept) w G'.own (w4.setCell ⟨G.lb, 2, none⟩ (.slice (some ⟨k, 0, none⟩) ((G.sv 2).n + ts.length) cap)) := by
  have h1 := h.retagged (inSls ts) .kept (fun b hbb => by
    obtain ⟨t, x, ht, hx, e⟩ := inSls_iff hbb
    subst e
    exact ⟨hf t x ht hx, (ho t ht).lt x hx⟩)
  have hu : Upd w w4 (tagged G.own (inSls ts) .kept) (.arr 2) k := Upd.of_many h1.lt (sa := (G.sv 2).a) (n := (G.sv 2).n) (cap := (G.sv 2).cap) (h1.ta 2 (by omega)) hb q4 g4 (by
    rcases p4 with p4 | p4
    · left
      rcases (h.o 2 (by omega)).2 with ⟨hv, _⟩ | ⟨g, c, cur, hv, _⟩
      · injection hv with e1; rw [e1] at p4; simp [Value.ownBlock] at p4
      · injection hv with e1; rw [e1] at p4 ⊢; simp only [Value.ownBlock, Option.some.injEq] at p4; rw [p4]
    · right; omega)
  have hG := h1.grown 2 (by omega) hu { G with sv := fun j => if j = 2 then ⟨some ⟨k, 0, none⟩, (G.sv 2).n + ts.length, cap⟩ else G.sv j, rl := more G.rl S.rs.length ts, own := retag (tagged G.own (inSls ts) .kept) k (.arr 2) } { S with rs := S.rs ++ mm } rfl rfl rfl
    (by
      show w4.ownsRow 0 _ 1 _ _ (slCells (more G.rl S.rs.length ts) (S.rs ++ mm).length)
      rw [List.length_append, hmm, slCells_more]; exact o4)
    (by
      intro j h6 hj
      match j, hj with
      | 0, _ => rfl
      | 1, _ => rfl
      | 2, hj => exact absurd rfl hj
      | 3, _ => rfl
      | 4, _ => rfl
      | j + 5, _ => rfl)
    h1.hx h1.hm
    (by
      intro i x hx
      rcases get_more _ _ _ _ hx with ⟨hi, hx⟩ | ⟨q, rfl, hx2⟩
      · show Owns w _ 2 (more G.rl S.rs.length ts i) (rep (recPat x) (more G.rl S.rs.length ts i).n) ∧ ∀ a, (more G.rl S.rs.length ts i).a = some a → _
        rw [more_old _ _ _ _ hi]
        exact h1.hr i x hx
      · have hq : q < ts.length := by rw [← hmm]; exact (List.getElem?_eq_some_iff.1 hx2).1
        have ht : ts[q]? = some ts[q] := List.getElem?_eq_getElem hq
        have hxm := hm1 x (List.mem_of_getElem? hx2)
        show Owns w _ 2 (more G.rl S.rs.length ts (S.rs.length + q)) (rep (recPat x) (more G.rl S.rs.length ts (S.rs.length + q)).n) ∧ ∀ a, (more G.rl S.rs.length ts (S.rs.length + q)).a = some a → _
        rw [more_new _ _ _ _ _ ht, hxm]
        have hmem : ts[q] ∈ ts := List.getElem_mem hq
        exact ⟨ho _ hmem, fun a ha => if_pos (inSls_of hmem ha)⟩)
    h1.he
  refine ⟨_, ?_, ?_, hG.1, hG.2⟩ <;> rfl
/-- A list that was lent is added. -/
theorem LRep.addE {w W w4 : World} {G : LLay} {S : LSt} (h : LRep w G S) (t : Sl) (ho : Owns w 74 3 t (rep wrPat t.n)) (hf : ∀ x, t.a = some x → G.own x.block = none ∨ G.own x.block = some .fresh)
    (hb : Below w.heap.size w W) {k cap : Nat} (o4 : w4.ownsRow 0 52 1 (.slice (some ⟨k, 0, none⟩) ((G.sv 3).n + 1) cap) ((G.sv 3).n + 1) (slCells G.el S.ne ++ [.slice t.a t.n t.cap]))
    (g4 : W.grownBy w4 (Value.slice (G.sv 3).a (G.sv 3).n (G.sv 3).cap).ownBlock) (p4 : (G.sv 3).a = some ⟨k, 0, none⟩ ∨ W.heap.size ≤ k) (q4 : k < w4.heap.size) :
    ∃ G', G'.lb = G.lb ∧ LRep (w4.setCell ⟨G.lb, 3, none⟩ (.slice (some ⟨k, 0, none⟩) ((G.sv 3).n + 1) cap)) G' { S with ne := S.ne + 1 } ∧ Ext (tagged G.own (inSls [t]) .kept) w G'.own (w4.setCell ⟨G.lb, 3, none⟩ (.slice (some ⟨k, 0, none⟩) ((G.sv 3).n + 1) cap)) := by
  have h1 := h.retagged (inSls [t]) .kept (fun b hbb => by
    obtain ⟨t', x, ht, hx, e⟩ := inSls_iff hbb
    simp at ht
    subst ht e
    exact ⟨hf x hx, ho.lt x hx⟩)
  have hu : Upd w w4 (tagged G.own (inSls [t]) .kept) (.arr 3) k := Upd.of_many h1.lt (sa := (G.sv 3).a) (n := (G.sv 3).n) (cap := (G.sv 3).cap) (h1.ta 3 (by omega)) hb q4 g4 p4
  have hG := h1.grown 3 (by omega) hu { G with sv := fun j => if j = 3 then ⟨some ⟨k, 0, none⟩, (G.sv 3).n + 1, cap⟩ else G.sv j, el := more G.el S.ne [t], own := retag (tagged G.own (inSls [t]) .kept) k (.arr 3) } { S with ne := S.ne + 1 } rfl rfl rfl
    (by
      show w4.ownsRow 0 _ 1 _ _ (slCells (more G.el S.ne [t]) (S.ne + [t].length))
      rw [slCells_more]; exact o4)
    (by
      intro j h6 hj
      match j, hj with
      | 0, _ => rfl
      | 1, _ => rfl
      | 2, _ => rfl
      | 3, hj => exact absurd rfl hj
      | 4, _ => rfl
      | j + 5, _ => rfl)
    h1.hx h1.hm h1.hr
    (by
      intro i hi
      show Owns w _ 3 (more G.el S.ne [t] i) (rep wrPat (more G.el S.ne [t] i).n) ∧ ∀ a, (more G.el S.ne [t] i).a = some a → _
      by_cases e : i < S.ne
      · rw [more_old _ _ _ _ e]; exact h1.he i e
      · have : i = S.ne + 0 := by simp only at hi; omega
        subst this
        rw [more_new G.el S.ne [t] 0 t rfl]
        exact ⟨ho, fun a ha => if_pos (inSls_of (by simp) ha)⟩)
  refine ⟨_, ?_, hG.1, hG.2⟩
  rfl
/-- Marks are added. -/
theorem LRep.addK {w W w4 : World} {G : LLay} {S : LSt} (h : LRep w G S) (b : Bool) (mm : List Int)
    (hb : Below w.heap.size w W) {k cap n : Nat} (o4 : w4.ownsRow 0 3 1 (.slice (some ⟨k, 0, none⟩) n cap) n (intCells (if b then S.m0 else S.m1) ++ intCells mm))
    (g4 : W.grownBy w4 (Value.slice (G.sv (if b then 4 else 5)).a (G.sv (if b then 4 else 5)).n (G.sv (if b then 4 else 5)).cap).ownBlock) (p4 : (Value.slice (G.sv (if b then 4 else 5)).a (G.sv (if b then 4 else 5)).n (G.sv (if b then 4 else 5)).cap).ownBlock = some k ∨ k = W.heap.size) (q4 : k < w4.heap.size) :
    ∃ G', G'.lb = G.lb ∧ LRep (w4.setCell ⟨G.lb, if b then 4 else 5, none⟩ (.slice (some ⟨k, 0, none⟩) n cap)) G' (if b then { S with m0 := S.m0 ++ mm } else { S with m1 := S.m1 ++ mm }) ∧ Ext G.own w G'.own (w4.setCell ⟨G.lb, if b then 4 else 5, none⟩ (.slice (some ⟨k, 0, none⟩) n cap)) := by
  have hk6 : (if b then 4 else 5 : Nat) < 6 := by cases b <;> simp
  have hu : Upd w w4 G.own (.arr (if b then 4 else 5)) k := Upd.of_many h.lt (sa := (G.sv (if b then 4 else 5)).a) (n := (G.sv (if b then 4 else 5)).n) (cap := (G.sv (if b then 4 else 5)).cap) (h.ta _ hk6) hb q4 g4 (by
    rcases p4 with p4 | p4
    · left
      rcases (h.o _ hk6).2 with ⟨hv, _⟩ | ⟨g, c, cur, hv, _⟩
      · injection hv with e1; rw [e1] at p4; simp [Value.ownBlock] at p4
      · injection hv with e1; rw [e1] at p4 ⊢; simp only [Value.ownBlock, Option.some.injEq] at p4; rw [p4]
    · right; omega)
  have hG := h.grown _ hk6 hu { G with sv := fun j => if j = (if b then 4 else 5) then ⟨some ⟨k, 0, none⟩, n, cap⟩ else G.sv j, own := retag G.own k (.arr (if b then 4 else 5)) } (if b then { S with m0 := S.m0 ++ mm } else { S with m1 := S.m1 ++ mm }) rfl rfl rfl
    (by
      cases b
      · show w4.ownsRow 0 _ 1 _ _ (intCells (S.m1 ++ mm))
        rw [show intCells (S.m1 ++ mm) = intCells S.m1 ++ intCells mm from by simp [intCells]]; exact o4
      · show w4.ownsRow 0 _ 1 _ _ (intCells (S.m0 ++ mm))
        rw [show intCells (S.m0 ++ mm) = intCells S.m0 ++ intCells mm from by simp [intCells]]; exact o4)
    (by
      intro j h6 hj
      cases b
      · match j, hj with
        | 0, _ => rfl
        | 1, _ => rfl
        | 2, _ => rfl
        | 3, _ => rfl
        | 4, _ => rfl
        | 5, hj => exact absurd rfl hj
        | j + 6, _ => omega
      · match j, hj with
        | 0, _ => rfl
        | 1, _ => rfl
        | 2, _ => rfl
        | 3, _ => rfl
        | 4, hj => exact absurd rfl hj
        | j + 5, _ => rfl)
    (by cases b <;> exact h.hx) (by cases b <;> exact h.hm) (by cases b <;> exact h.hr) (by cases b <;> exact h.he)
  refine ⟨_, ?_, hG.1, hG.2⟩
  rfl
end Go.Proofs.YtekbjlhbjcikdaaGreat
