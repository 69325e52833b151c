/-
  Walk of accordkeep.Smooth.
-/
import Derived.Test.YtekbjlhbjcikdaaS1
import Derived.Test.YtekbjlhbjcikdaaSmo4
import Derived.Deep.DeepCutAuto
namespace Go.Proofs.Ytekbjlhbjcikdaa
open Go.RowKit Acc Go.MuLone

/-- From (L0, w0) on the program has gone on: its world is s; what it did not own stands as it stood. -/
def At2 (L0 : Lay) (w0 w1 : World) (s : St) : Prop := ∃ L, L.wb = L0.wb ∧ RepW w1 L s ∧ Ext (own2 L0) w0 (own2 L) w1
theorem At2.step {L0 : Lay} {w0 w1 w2 : World} {L : Lay} {s' : St} (hw : L.wb = L0.wb) (he : Ext (own2 L0) w0 (own2 L) w1) (h : LeavesW L w1 s' w2) : At2 L0 w0 w2 s' := by
  obtain ⟨L', e1, _, hR, hE⟩ := h
  exact ⟨L', e1.trans hw, hR, he.trans hE⟩
theorem At2.cell {L0 : Lay} {w0 w1 : World} {s : St} (h : At2 L0 w0 w1 s) {b : Nat} (hb : b < w0.heap.size) (hn : own2 L0 b = none) (k : Nat) : w1.cell? ⟨b, k, none⟩ = w0.cell? ⟨b, k, none⟩ := by
  obtain ⟨L, _, _, hE⟩ := h
  exact World.cell?_of_block (a := ⟨b, k, none⟩) (hE.keep b hb hn).1
theorem At2.read {L0 : Lay} {w0 w1 w2 : World} {L : Lay} {s : St} (hw : L.wb = L0.wb) (he : Ext (own2 L0) w0 (own2 L) w1) (h : ReadsW L w1 s w2) : At2 L0 w0 w2 s := At2.step hw he h.leaves
theorem flying_at2 {L0 : Lay} {w0 w1 : World} {s : St} (h : At2 L0 w0 w1 s) (hk : Ok s) :
    Calls Try.prog 8 #[.pointer (some ⟨L0.wb, 0, none⟩)] w1 fun e w' => ∃ a cap, e = .returned (.slice a s.fly.length cap) ∧ At2 L0 w0 w' s := by
  obtain ⟨L, hw, hR, hE⟩ := h
  rw [← hw]
  refine (flying_any hR hk.inv.fl).mono ?_
  rintro e w2 ⟨a, cap, rfl, hl, _⟩
  exact ⟨a, cap, rfl, At2.read hw hE hl⟩
theorem deliver_at2 {L0 : Lay} {w0 w1 : World} {s : St} (h : At2 L0 w0 w1 s) (hk : Ok s) (hc : Still s) (i : Nat) (hi : i < s.fly.length) :
    Calls Try.prog 9 #[.pointer (some ⟨L0.wb, 0, none⟩), .int .i64 i] w1 fun e w' => e = .returned (.int .i64 0) ∧ At2 L0 w0 w' (s.deliver i) := by
  obtain ⟨L, hw, hR, hE⟩ := h
  rw [← hw]
  refine (deliver_any hR hk i).mono ?_
  rw [deliver_calm hc hk i hi]
  rintro e w2 ⟨rfl, hl⟩
  exact ⟨rfl, At2.step hw hE hl⟩
theorem state_at2 {L0 : Lay} {w0 w1 : World} {s : St} (h : At2 L0 w0 w1 s) (hk : Ok s) (n t : Nat) (hn : n ≤ s.parts) (h1 : 1 ≤ t) (h2 : t ≤ s.deals.length) :
    Calls Try.prog 12 #[.pointer (some ⟨L0.wb, 0, none⟩), .int .i64 n, .int .i64 t] w1 fun e w' => e = .returned (.tuple #[.int .i64 (s.state n t), .int .i64 0]) ∧ At2 L0 w0 w' s := by
  obtain ⟨L, hw, hR, hE⟩ := h
  rw [← hw]
  refine (state_any hR hk n t).mono ?_
  have hP : s.stateP n t = (s.state n t, 0) := by unfold St.stateP; rw [if_pos (by omega)]; simp
  rw [hP]
  rintro e w2 ⟨rfl, hl⟩
  exact ⟨rfl, At2.read hw hE hl⟩
theorem value_at2 {L0 : Lay} {w0 w1 : World} {s : St} (h : At2 L0 w0 w1 s) (hk : Ok s) (n k : Nat) (hn : n ≤ s.parts) (h1 : 1 ≤ n) (hk4 : k < 4) :
    Calls Try.prog 13 #[.pointer (some ⟨L0.wb, 0, none⟩), .int .i64 n, .int .i64 k] w1 fun e w' => e = .returned (.tuple #[.int .i64 (s.value n k), .int .i64 0]) ∧ At2 L0 w0 w' s := by
  obtain ⟨L, hw, hR, hE⟩ := h
  rw [← hw]
  refine (value_any hR hk n k).mono ?_
  have hP : s.valueP n k = (s.value n k, 0) := by unfold St.valueP; rw [if_pos (by unfold St.keyOk; omega)]; simp
  rw [hP]
  rintro e w2 ⟨rfl, hl⟩
  exact ⟨rfl, At2.read hw hE hl⟩

theorem new_quiet (p : Nat) (hp : p ≤ 5) : Quiet (St.new p) := ⟨rfl, fun _ _ => by simp [St.new, stOf], fun _ x hx => by simp [St.new] at hx, fun _ _ _ => rfl, hp⟩
theorem At2.drew {L0 : Lay} {w0 w1 : World} {s : St} (h : At2 L0 w0 w1 s) : At2 L0 w0 w1.drew s := by
  obtain ⟨L, e, hR, hE⟩ := h
  exact ⟨L, e, hR.below (Below.refl _ _).drew, hE.trans (Ext.of_below (Below.refl _ _).drew)⟩

def inI (x : Int) : Prop := -9223372036854775808 ≤ x ∧ x ≤ 9223372036854775807
/-- A slice of steps that came in. -/
def StepAt (w : World) (ra : Option Addr) (rn : Nat) : Prop :=
  rn = 0 ∨ ∃ g o, ra = some ⟨g, o, none⟩ ∧ g < w.heap.size ∧ ∀ i, i < rn → ∃ K A B C, w.cell? ⟨g, o + i * 4, none⟩ = some (.int .i64 K) ∧ w.cell? ⟨g, o + i * 4 + 1, none⟩ = some (.int .i64 A) ∧ w.cell? ⟨g, o + i * 4 + 2, none⟩ = some (.int .i64 B) ∧ w.cell? ⟨g, o + i * 4 + 3, none⟩ = some (.int .i64 C) ∧ inI A ∧ inI B ∧ inI C
def IntAt (w : World) (oa : Option Addr) (on : Nat) : Prop :=
  on = 0 ∨ ∃ g o, oa = some ⟨g, o, none⟩ ∧ g < w.heap.size ∧ ∀ i, i < on → ∃ x, w.cell? ⟨g, o + i, none⟩ = some (.int .i64 x) ∧ inI x

/-- What stands at the head of a round. -/
structure SInv (w wr : World) (wb rb j : Nat) (L : Lay) (s : St) (ta : Option Addr) (tc : Nat) (xs : List Value) : Prop where
  ew : L.wb = wb
  rep : RepW wr L s
  fr : Fresh w L
  bl : Below w.heap.size w wr
  q : Quiet s
  ok : Ok s
  st : Still s
  pa : s.parts = 3
  dl : s.deals.length = j
  ll : ∀ n, (s.log n).length ≤ 2 * j
  r0 : wr.cell? ⟨rb, 0, none⟩ = some (.pointer (some ⟨wb, 0, none⟩))
  r1 : wr.cell? ⟨rb, 1, none⟩ = some (.slice ta j tc)
  rf : ∀ k, wr.frozen? ⟨rb, k, none⟩ = false
  rw : w.heap.size ≤ rb
  ro : own2 L rb = none
  tr : Owns wr 27 1 ⟨ta, j, tc⟩ xs
  tt : ∀ a, ta = some a → own2 L a.block = none ∧ a.block ≠ rb ∧ w.heap.size ≤ a.block

theorem RepW.own2_free {w : World} {L : Lay} {s : St} (h : RepW w L s) {b : Nat} (hb : w.heap.size ≤ b) : own2 L b = none := by
  unfold own2
  rw [if_neg (by have := h.wlt; omega)]
  exact h.rep.free hb
theorem Owns.keep {w w' : World} {o o' : Nat → Option Tag} {e size : Nat} {s : Sl} {xs : List Value} (h : Owns w e size s xs) (he : Ext o w o' w') (hn : ∀ a, s.a = some a → o a.block = none) : Owns w' e size s xs :=
  h.frame fun a ha => (he.keep a.block (h.lt a ha) (hn a ha)).1

/-- What stands behind the laying down of the transaction's writes. -/
structure SMid (w wc : World) (wb rb j : Nat) (L : Lay) (s : St) (la : Option Addr) (lc : Nat) (ws : List Wr) (ta : Option Addr) (tc : Nat) (xs : List Value) : Prop where
  ew : L.wb = wb
  rep : RepW wc L s
  fr : Fresh w L
  bl : Below w.heap.size w wc
  r0 : wc.cell? ⟨rb, 0, none⟩ = some (.pointer (some ⟨wb, 0, none⟩))
  r1 : wc.cell? ⟨rb, 1, none⟩ = some (.slice ta j tc)
  rf : ∀ k, wc.frozen? ⟨rb, k, none⟩ = false
  rw : w.heap.size ≤ rb
  ro : own2 L rb = none
  tr : Owns wc 27 1 ⟨ta, j, tc⟩ xs
  tt : ∀ a, ta = some a → own2 L a.block = none ∧ a.block ≠ rb ∧ w.heap.size ≤ a.block
  lo : Owns wc 45 3 ⟨la, ws.length, lc⟩ (wrCells ws)
  lw : ∀ a, la = some a → own2 L a.block = none ∧ a.block ≠ rb ∧ w.heap.size ≤ a.block ∧ (∀ b, ta = some b → b.block ≠ a.block)

theorem SMid.below {w wc w' : World} {wb rb j : Nat} {L : Lay} {s : St} {la : Option Addr} {lc : Nat} {ws : List Wr} {ta : Option Addr} {tc : Nat} {xs : List Value} (h : SMid w wc wb rb j L s la lc ws ta tc xs) (hb : Below wc.heap.size wc w') : SMid w w' wb rb j L s la lc ws ta tc xs := by
  have hr : rb < wc.heap.size := World.block_lt_of_cell? wc _ h.r0
  exact ⟨h.ew, h.rep.below hb, h.fr, h.bl.more hb, (hb.cell (p := ⟨rb, 0, none⟩) hr).trans h.r0, (hb.cell (p := ⟨rb, 1, none⟩) hr).trans h.r1, fun k => (hb.frozen (p := ⟨rb, k, none⟩) hr).trans (h.rf k), h.rw, h.ro, ownsRow_below h.tr hb, h.tt, ownsRow_below h.lo hb, h.lw⟩

/-- One list more is laid down, and the slice of them stored. -/
theorem SMid.stored {w wc w3 : World} {wb rb j : Nat} {L : Lay} {s : St} {la : Option Addr} {lc : Nat} {ws : List Wr} {ta : Option Addr} {tc : Nat} {xs ys : List Value} (h : SMid w wc wb rb j L s la lc ws ta tc xs) {k cap' : Nat}
    (g1 : w3.ownsRow 0 27 1 (.slice (some ⟨k, 0, none⟩) (j + 1) cap') (j + 1) ys) (g2 : wc.grownBy w3 (Value.slice ta j tc).ownBlock) (g3 : ta = some ⟨k, 0, none⟩ ∨ wc.heap.size ≤ k) :
    w3.cell? ⟨rb, 1, none⟩ = some (.slice ta j tc) ∧ w3.frozen? ⟨rb, 1, none⟩ = false ∧ SMid w (w3.setCell ⟨rb, 1, none⟩ (.slice (some ⟨k, 0, none⟩) (j + 1) cap')) wb rb (j + 1) L s la lc ws (some ⟨k, 0, none⟩) cap' ys := by
  have hr : rb < wc.heap.size := World.block_lt_of_cell? wc _ h.r0
  have hkb : ∀ b, b < wc.heap.size → (∀ a, ta = some a → a.block ≠ b) → w3.heap[b]? = wc.heap[b]? := by
    intro b hb hn
    refine g2.block b hb ?_
    intro e
    cases ta with
    | none => simp [Value.ownBlock] at e
    | some a => simp only [Value.ownBlock, Option.some.injEq] at e; exact hn a rfl e.symm
  have hrb : w3.heap[rb]? = wc.heap[rb]? := hkb rb hr (fun a ha => (h.tt a ha).2.1)
  have c1 : w3.cell? ⟨rb, 1, none⟩ = some (.slice ta j tc) := (World.cell?_of_block (a := ⟨rb, 1, none⟩) hrb).trans h.r1
  have f1 : ∀ q, w3.frozen? ⟨rb, q, none⟩ = false := fun q => (World.frozen?_of_block (a := ⟨rb, q, none⟩) hrb).trans (h.rf q)
  have hkr : k ≠ rb := by
    rcases g3 with g3 | g3
    · exact (h.tt _ g3).2.1
    · omega
  have hko : own2 L k = none ∧ w.heap.size ≤ k := by
    rcases g3 with g3 | g3
    · exact ⟨(h.tt _ g3).1, (h.tt _ g3).2.2⟩
    · exact ⟨h.rep.own2_free g3, Nat.le_trans h.bl.size g3⟩
  have hown : ∀ b t, own2 L b = some t → (w3.setCell ⟨rb, 1, none⟩ (.slice (some ⟨k, 0, none⟩) (j + 1) cap')).heap[b]? = wc.heap[b]? := by
    intro b t hb
    have hne : b ≠ rb := by intro e; rw [e, h.ro] at hb; cases hb
    have hlt : b < wc.heap.size := by
      by_cases hlt : b < wc.heap.size
      · exact hlt
      · have hf := h.rep.own2_free (b := b) (by omega)
        rw [hf] at hb; cases hb
    rw [block_setCell hne]
    exact hkb b hlt (fun a ha e => by have := (h.tt a ha).1; rw [e, hb] at this; cases this)
  have hszs : (w3.setCell ⟨rb, 1, none⟩ (.slice (some ⟨k, 0, none⟩) (j + 1) cap')).heap.size = w3.heap.size := by simp [World.setCell]
  have hbw : own2 L L.wb = some .world := by simp [own2]
  have hbo : ∀ b t, L.own b = some t → own2 L b = some t := by
    intro b t hb
    unfold own2
    rw [if_neg (by intro e; rw [e, h.rep.fr] at hb; cases hb)]
    exact hb
  have hbl : Below w.heap.size wc w3 := ⟨g2.os, g2.tape, g2.output, g2.size, fun b hb => hkb b (Nat.lt_of_lt_of_le hb h.bl.size) (fun a ha e => by have := (h.tt a ha).2.2; omega)⟩
  refine ⟨c1, f1 1, h.ew, ?_, h.fr, (h.bl.trans hbl).setCell h.rw _, ?_, ?_, ?_, h.rw, h.ro, ?_, ?_, ?_, ?_⟩
  · refine ⟨h.rep.rep.frame (by rw [hszs]; exact g2.size) (fun b t hb => hown b t (hbo b t hb)), ?_, ?_, ?_, h.rep.fr⟩
    · exact (World.cell?_of_block (a := ⟨L.wb, 0, none⟩) (hown _ _ hbw)).trans h.rep.l0
    · exact (World.cell?_of_block (a := ⟨L.wb, 2, none⟩) (hown _ _ hbw)).trans h.rep.l2
    · exact (World.frozen?_of_block (a := ⟨L.wb, 0, none⟩) (hown _ _ hbw)).trans h.rep.lf
  · rw [World.cell?_setCell_other _ _ _ _ (by simp)]
    exact (World.cell?_of_block (a := ⟨rb, 0, none⟩) hrb).trans h.r0
  · exact World.cell?_setCell_same _ _ _ c1
  · intro q; simpa using f1 q
  · exact (Owns.of_row g1).frame fun a ha => by simp only [Option.some.injEq] at ha; subst ha; exact block_setCell hkr
  · intro a ha
    simp only [Option.some.injEq] at ha
    subst ha
    exact ⟨hko.1, hkr, hko.2⟩
  · refine h.lo.frame fun a ha => ?_
    obtain ⟨_, l2, _, l4⟩ := h.lw a ha
    rw [block_setCell l2]
    exact hkb a.block (h.lo.lt a ha) (fun b hb => l4 b hb)
  · intro a ha
    obtain ⟨l1, l2, l3, l4⟩ := h.lw a ha
    refine ⟨l1, l2, l3, ?_⟩
    intro b hb
    simp only [Option.some.injEq] at hb
    subst hb
    rcases g3 with g3 | g3
    · exact l4 _ g3
    · have := h.lo.lt a ha; simp only; omega

/-- The head of the next round. -/
theorem SMid.next {w wc wr : World} {wb rb j : Nat} {L : Lay} {s s' : St} {la : Option Addr} {lc : Nat} {ws : List Wr} {ta : Option Addr} {tc : Nat} {xs : List Value} (h : SMid w wc wb rb j L s la lc ws ta tc xs) (hA : At2 L wc wr s')
    (q : Quiet s') (ok : Ok s') (st : Still s') (pa : s'.parts = 3) (dl : s'.deals.length = j) (ll : ∀ n, (s'.log n).length ≤ 2 * j) : ∃ L', SInv w wr wb rb j L' s' ta tc xs := by
  obtain ⟨L', e, hR, hE⟩ := hA
  have hrlt : rb < wc.heap.size := World.block_lt_of_cell? wc _ h.r0
  obtain ⟨f, b⟩ := h.fr.step hE h.bl.size
  obtain ⟨kr, ko⟩ := hE.keep rb hrlt h.ro
  refine ⟨L', e.trans h.ew, hR, f, h.bl.trans b, q, ok, st, pa, dl, ll, ?_, ?_, ?_, h.rw, ko, h.tr.keep hE (fun a ha => (h.tt a ha).1), ?_⟩
  · exact (World.cell?_of_block (a := ⟨rb, 0, none⟩) kr).trans h.r0
  · exact (World.cell?_of_block (a := ⟨rb, 1, none⟩) kr).trans h.r1
  · intro k; exact (World.frozen?_of_block (a := ⟨rb, k, none⟩) kr).trans (h.rf k)
  · intro a ha
    obtain ⟨t1, t2, t3⟩ := h.tt a ha
    exact ⟨(hE.keep a.block (h.tr.lt a ha) t1).2, t2, t3⟩

theorem Try.infoSl : (Try.prog.info? 27).map (fun i => (i.zero, i.size, i.bytes)) = some (some (.slice none 0 0), 1, 24) := by kernel_rfl

set_option maxRecDepth 100000 in
set_option maxHeartbeats 8000000 in
theorem smooth_any (w : World) (ra oa : Option Addr) (rn rc on oc : Nat) (hrn : rn ≤ maxLen) (hon : on ≤ maxLen) (_hrc : rn ≤ rc) (hoc : on ≤ oc) (hra : StepAt w ra rn) (hoa : IntAt w oa on) :
    Calls Try.prog 3 #[.slice ra rn rc, .slice oa on oc] w fun e w' => e = .returned (.bool true) ∧ Below w.heap.size w w' := by
  unfold maxLen at hrn hon
  have hbg := hide (begun_any w)
  go_enter Try.func3, Try.ntmps3
  go_wp2_with fail
  refine (unhide hbg).mono ?_
  rintro e w1 ⟨rfl, hb1⟩
  clear hbg
  have hfr := hide (fresh_any w1)
  go_wp2_with fail
  refine (unhide hfr).mono ?_
  rintro e w2 ⟨L, rb, rfl, hR, hb2, hF, hrb, hro, c0, c1, cf⟩
  have hS : SInv w w2 L.wb rb 0 L (St.new 3) none 0 [] := by
    refine ⟨rfl, hR, fun b hb => hF b (Nat.lt_of_lt_of_le hb hb1.size), hb1.more hb2, new_quiet 3 (by omega), Ok.new 3 (by omega) (by omega), Still.new 3, rfl, rfl, fun n => by simp [St.new], c0, c1, cf, Nat.le_trans hb1.size hrb, hro, World.ownsRow_nil _ _ _ _, by intro a ha; cases ha⟩
  clear hfr hb1 hb2 hF hrb hro c0 c1 cf hR
  generalize L.wb = wb at *
  go_wp2_with fail
  go_loopw [7] (fun i wr => ∃ j L s ta tc xs, j ≤ 12 ∧ j ≤ rn ∧ i = .int .i64 ((j : Nat) : Int) ∧ SInv w wr wb rb j L s ta tc xs) (fun i _ => 12 - (intOf i).toNat)
  case atStart => exact ⟨0, L, St.new 3, none, 0, [], by omega, by omega, rfl, hS⟩
  case round =>
    clear hS
    obtain ⟨j, L, s, ta, tc, xs, hj12, hjn, rfl, hI⟩ := hrel
    by_cases hgo : j < rn ∧ j < 12
    · obtain ⟨hj1, hj2⟩ := hgo
      obtain ⟨g, o, rfl, hg, hst⟩ : ∃ g o, ra = some ⟨g, o, none⟩ ∧ g < w.heap.size ∧ ∀ i, i < rn → ∃ K A B C, w.cell? ⟨g, o + i * 4, none⟩ = some (.int .i64 K) ∧ w.cell? ⟨g, o + i * 4 + 1, none⟩ = some (.int .i64 A) ∧ w.cell? ⟨g, o + i * 4 + 2, none⟩ = some (.int .i64 B) ∧ w.cell? ⟨g, o + i * 4 + 3, none⟩ = some (.int .i64 C) ∧ inI A ∧ inI B ∧ inI C := by
        rcases hra with h | h
        · omega
        · exact h
      obtain ⟨K, A, B, C, s0, s1, s2, s3, iA, iB, iC⟩ := hst j hj1
      have hgr : g < wr.heap.size := Nat.lt_of_lt_of_le hg hI.bl.size
      have hgo : own2 L g = none := hI.fr g hg
      have m0 := (hI.bl.cell (p := ⟨g, o + j * 4, none⟩) hg).trans s0
      have m1 := (hI.bl.cell (p := ⟨g, o + j * 4 + 1, none⟩) hg).trans s1
      have m2 := (hI.bl.cell (p := ⟨g, o + j * 4 + 2, none⟩) hg).trans s2
      have m3 := (hI.bl.cell (p := ⟨g, o + j * 4 + 3, none⟩) hg).trans s3
      have HM := hide (And.intro m0 (And.intro m1 (And.intro m2 m3)))
      have hwr := hide (fun w => writes_any K A B C w iA.1 iA.2 iB.1 iB.2 iC.1 iC.2)
      have r0 := hI.r0
      have HR0 := hide r0
      clear hst s0 s1 s2 s3 r0
      go_wp2_with fail
      refine (unhide hwr _).mono ?_
      rintro e w3 ⟨la, lc, rfl, hb3, hl3⟩
      have hfit := writesOf_fit A B C
      have hlen := writesOf_len A B C
      generalize writesOf A B C = ws at *
      have hrlt : rb < wr.heap.size := World.block_lt_of_cell? wr _ (unhide HR0)
      have r0 := (hb3.cell (p := ⟨rb, 0, none⟩) hrlt).trans (unhide HR0)
      have hO3 := Owns.of_row (ownsRow_mono hl3 (Nat.zero_le _))
      have hlw : ∀ a, la = some a → wr.heap.size ≤ a.block := by
        intro a ha
        have := hl3.lt a.block (by rw [ha]; rfl)
        exact this.1
      have hsoB := hfit.sound hlen.2 (by omega) s.parts (by rw [hI.pa]; omega)
      have hbgn := begin_any (hI.rep.below hb3) hI.ok la ws.length lc ws rfl (by unfold maxLen; omega) hO3.cap_le.1 hO3.wrAt.2 (by intro ad had; have := hlw ad had; have := hI.rep.wlt; omega)
      rw [begin_calm hI.st hI.ok ws hsoB (by rw [hI.dl]; exact hj2)] at hbgn
      have HOK := hide (ok_begin hI.st hI.ok ws hsoB (by rw [hI.dl]; exact hj2))
      clear hsoB
      rw [hI.ew, hI.dl] at hbgn
      have HBG := hide hbgn
      clear hbgn m0 m1 m2 m3
      go_wp2_with fail
      refine (unhide HBG).mono ?_
      rintro e w4 ⟨rfl, L1, e1, e2, hR4, hE4⟩
      have hM4 : SMid w w4 wb rb j L1 (s.begin ws) la lc ws ta tc xs := by
        have hrl : rb < w3.heap.size := Nat.lt_of_lt_of_le hrlt hb3.size
        obtain ⟨kr, kro⟩ := hE4.keep rb hrl hI.ro
        obtain ⟨f4, b4⟩ := hI.fr.step hE4 (Nat.le_trans hI.bl.size hb3.size)
        have hla : ∀ a, la = some a → own2 L a.block = none := fun a ha => hI.rep.own2_free (hlw a ha)
        refine ⟨e1.trans hI.ew, hR4, f4, (hI.bl.more hb3).trans b4, ?_, ?_, ?_, hI.rw, kro, ?_, ?_, hO3.keep hE4 hla, ?_⟩
        · exact (World.cell?_of_block (a := ⟨rb, 0, none⟩) kr).trans r0
        · exact (World.cell?_of_block (a := ⟨rb, 1, none⟩) kr).trans ((hb3.cell (p := ⟨rb, 1, none⟩) hrlt).trans hI.r1)
        · intro k; exact (World.frozen?_of_block (a := ⟨rb, k, none⟩) kr).trans ((hb3.frozen (p := ⟨rb, k, none⟩) hrlt).trans (hI.rf k))
        · exact Owns.keep (ownsRow_below hI.tr hb3 : Owns w3 27 1 ⟨ta, j, tc⟩ xs) hE4 (fun a ha => (hI.tt a ha).1)
        · intro a ha
          obtain ⟨t1, t2, t3⟩ := hI.tt a ha
          exact ⟨(hE4.keep a.block (Nat.lt_of_lt_of_le (hI.tr.lt a ha) hb3.size) t1).2, t2, t3⟩
        · intro a ha
          have h1 := hlw a ha
          refine ⟨(hE4.keep a.block (hO3.lt a ha) (hla a ha)).2, by omega, Nat.le_trans hI.bl.size h1, ?_⟩
          intro b hb
          have := hI.tr.lt b hb
          omega
      have hm4 : ∀ q, w4.cell? ⟨g, q, none⟩ = wr.cell? ⟨g, q, none⟩ := fun q =>
        (World.cell?_of_block (a := ⟨g, q, none⟩) (hE4.keep g (Nat.lt_of_lt_of_le hgr hb3.size) hgo).1).trans (hb3.cell (p := ⟨g, q, none⟩) hgr)
      obtain ⟨m0, m1, m2, m3⟩ := unhide HM
      have n0 := (hm4 _).trans m0
      have n1 := (hm4 _).trans m1
      have n2 := (hm4 _).trans m2
      have n3 := (hm4 _).trans m3
      have HI := hide hI
      clear hm4 m0 m1 m2 m3 HM hE4 hR4 e1 e2 HBG hO3 hl3 hb3 r0 HR0 hlw hgr hgo hI hrlt
      obtain ⟨i0, hi0, hz0, hz1, hz2⟩ := info_parts Try.infoSl
      have c41 := hM4.r1
      have hrb4 := World.block_lt_of_cell? w4 _ c41
      go_wp2_with fail
      go_cut [] from 60 to 73 (fun wc => ∃ ta' tc' xs', SMid w wc wb rb (j + 1) L1 (s.begin ws) la lc ws ta' tc' xs')
      case first =>
        go_region_law (first
          | (refine step_append_one rfl (.tmp 64) (.tmp 70) 34 rfl 27 i0 (.slice none 0 0) 1 24 Try.underlying34 hi0 hz0 hz1 hz2 rfl (by decide) ta j tc xs rfl (by exact World.ownsRow.alloc hM5.tr _) ⟨w5.heap.size, 0, none⟩ 1 [.slice la2 ws.length lc2] rfl rfl (by exact new_cells _ [.slice la2 ws.length lc2] _) (fun x hx => by simp at hx; subst hx; rfl) (by unfold maxLen; omega) (by omega) ?_; intro k cap' w6 g1 g2 g3; obtain ⟨c6, f6, hM6⟩ := (hM5.below (below_alloc _ _)).stored g1 g2 g3; clear g1 g2 g3)
          | (go_simp; go_at_call 6; refine (unhide hwr _).mono ?_; rintro e w5 ⟨la2, lc2, rfl, hb5, hl5⟩; have hM5 := hM4.below ((Below.refl _ _).drew.trans hb5); have c51 := hM5.r1; have hrb5 := World.block_lt_of_cell? w5 _ c51; clear hb5 hl5))
        all_goals (try go_wp2_with fail)
        all_goals go_meet
        all_goals exact ⟨_, _, _, hM6⟩
      case rest =>
        rename World => w0
        obtain ⟨ta', tc', xs', hM⟩ := hcut
        clear hM4 n0 n1 n2 n3 c41 hrb4 hwr hz0 hz1 hz2 hi0
        go_wp2_with fail
        have hI := unhide HI
        have hRun0 : Run s (s.begin ws) ws false (fun _ => 0) := run_begin hI.q (by
          obtain ⟨x, hx⟩ := List.exists_mem_of_ne_nil ws (by intro e; rw [e] at hlen; simp at hlen)
          obtain ⟨m, _, hm⟩ := hfit.memOf x hx
          exact ⟨m, hm⟩)
        have HA0 : Hid (At2 L1 w0 w0 (s.begin ws)) := ⟨L1, rfl, hM.rep, Ext.refl _ _⟩
        have hrlt : rb < w0.heap.size := World.block_lt_of_cell? w0 _ hM.r0
        have hcell : ∀ w' s', At2 L1 w0 w' s' → w'.cell? ⟨rb, 0, none⟩ = some (.pointer (some ⟨wb, 0, none⟩)) := fun w' s' h => (h.cell hrlt hM.ro 0).trans hM.r0
        have HCE := hide hcell
        have hord : ∀ i, i < on → ∃ gg oo, oa = some ⟨gg, oo, none⟩ ∧ ∃ x, inI x ∧ ∀ w' s', At2 L1 w0 w' s' → w'.cell? ⟨gg, oo + i, none⟩ = some (.int .i64 x) := by
          intro i hi
          rcases hoa with h | ⟨gg, oo, rfl, hgg, hx⟩
          · omega
          · obtain ⟨x, hx1, hx2⟩ := hx i hi
            exact ⟨gg, oo, rfl, x, hx2, fun w' s' h => (h.cell (Nat.lt_of_lt_of_le hgg hM.bl.size) (hM.fr gg hgg) _).trans ((hM.bl.cell (p := ⟨gg, oo + i, none⟩) hgg).trans hx1)⟩
        have HORD := hide hord
        have HE := hide hM.ew
        have HM2 := hide hM
        have HR0 := hide hRun0
        clear hcell hord hM hRun0 hI hra hoa
        go_loopw [11] (fun k wr => ∃ (q : Nat) (s' : St) (c : Bool) (ph : Nat → Nat), k = .int .i64 ((q : Nat) : Int) ∧ At2 L1 w0 wr s' ∧ Run s s' ws c ph ∧ Hid (Ok s' ∧ Still s') ∧ q ≤ ((members ws).map ph).sum) (fun k _ => 100 - (intOf k).toNat)
        case atStart => exact ⟨0, _, _, _, rfl, unhide HA0, unhide HR0, HOK, Nat.zero_le _⟩
        case round =>
          obtain ⟨q, s', c, ph, rfl, hA, hRun, hOS, hq⟩ := hrel
          have hq20 := run_sum hRun
          have w1 := (unhide hOS).1
          have hq100 : q < 100 := by omega
          have hfy := flying_at2 hA w1
          rw [unhide HE] at hfy
          have HFY := hide hfy
          have cr := unhide HCE _ _ hA
          have h60 := w1.inv.fl
          have HQ := hide hq
          have HRUN := hide hRun
          clear hfy hq20 hq hRun
          go_wp2_with fail
          refine (unhide HFY).mono ?_
          rintro e w8 ⟨a8, c8, rfl, hA8⟩
          have cr8 := unhide HCE _ _ hA8
          by_cases hne : 0 < s'.fly.length
          · have hne' : (0 : Int) < (s'.fly.length : Int) := by omega
            go_upto_if 89 with (fail)
            go_cut [12] from 74 to 113 (fun cc wx => ∃ x, cc = .int .i64 x ∧ inI x ∧ At2 L1 w0 wx s')
            case first =>
              by_cases hon0 : 0 < on
              · obtain ⟨gg, oo, rfl, x, hx, hxc⟩ := unhide HORD ((j + q) % on) (Nat.mod_lt _ hon0)
                have hxc := hxc _ _ hA8
                have hb0 : 0 ≤ ((j : Int) + (q : Int)) % (on : Int) := Int.emod_nonneg _ (by omega)
                have hb1 : ((j : Int) + (q : Int)) % (on : Int) < (on : Int) := Int.emod_lt_of_pos _ (by omega)
                go_wp2
                go_meet
                exact ⟨x, rfl, hx, hA8⟩
              · have hon1 : on = 0 := by omega
                have hx0 : inI 0 := ⟨by omega, by omega⟩
                have HX0 := hide hx0
                clear hx0
                subst hon1
                go_wp2
                go_meet
                exact ⟨0, rfl, unhide HX0, hA8⟩
            case rest =>
              clear hA8 cr8
              obtain ⟨x, rfl, hx, hA8⟩ := hcut
              have cr8 := unhide HCE _ _ hA8
              have hpr := pickI_range x s'.fly.length (by omega)
              obtain ⟨i, hi⟩ : ∃ i : Nat, pickI x s'.fly.length = (i : Int) := ⟨(pickI x s'.fly.length).toNat, by omega⟩
              have hil : i < s'.fly.length := by omega
              have hpk : ∀ w, Calls Try.prog 10 #[.int .i64 x, .int .i64 (s'.fly.length : Int)] w fun e w' => e = .returned (.int .i64 (i : Int)) ∧ w' = w := fun w => by
                rw [← hi]; exact pick_any x s'.fly.length w (by omega) (by omega) hx.1 hx.2
              have HPK := hide hpk
              have hdl : ∀ w', At2 L1 w0 w' s' → Calls Try.prog 9 #[.pointer (some ⟨wb, 0, none⟩), .int .i64 (i : Int)] w' fun e w'' => e = .returned (.int .i64 0) ∧ At2 L1 w0 w'' (s'.deliver i) := fun w' h => by
                rw [← unhide HE]; exact deliver_at2 h w1 (unhide hOS).2 i hil
              have HDL := hide hdl
              have hfl2 : ∀ w', At2 L1 w0 w' s' → Calls Try.prog 8 #[.pointer (some ⟨wb, 0, none⟩)] w' fun e w'' => ∃ a cap, e = .returned (.slice a s'.fly.length cap) ∧ At2 L1 w0 w'' s' := fun w' h => by
                rw [← unhide HE]; exact flying_at2 h w1
              have HFL2 := hide hfl2
              have HIL := hide hil
              clear hpk hdl hfl2 hpr hi hil hx w1
              go_wp2_with fail
              go_region_held3 (fun w' => w'.cell? ⟨rb, 0, none⟩ = some (.pointer (some ⟨wb, 0, none⟩))) (go_keep)
                (first
                  | (go_at_call 8; refine (unhide HFL2 _ (At2.drew hA8)).mono ?_; rintro e w9 ⟨a9, c9, rfl, hA9⟩; have cr9 := unhide HCE _ _ hA9)
                  | (go_at_call 10; refine (unhide HPK _).mono ?_; rintro e w10 ⟨rfl, rfl⟩)
                  | (go_at_call 9; refine (unhide HDL _ hA9).mono ?_; rintro e w11 ⟨rfl, hA11⟩; have cr11 := unhide HCE _ _ hA11))
              go_wp2
              obtain ⟨c', ph', hr', hsum⟩ := run_step (unhide HRUN) (unhide HI).q i (unhide HIL)
              have hq := unhide HQ
              exact ⟨⟨q + 1, _, c', ph', by go_num, hA11, hr', hide (ok_deliver (unhide hOS).2 (unhide hOS).1 i), by omega⟩, by simp [intOf]; omega⟩
          · have hf0 : s'.fly = [] := List.eq_nil_of_length_eq_zero (by omega)
            have hl0 : s'.fly.length = 0 := by omega
            have hRf := unhide HRUN
            have hI := unhide HI
            have hM := unhide HM2
            have hpa : s'.parts = 3 := by rw [hRf.parts]; exact hI.pa
            have hdl : s'.deals.length = j + 1 := by rw [hRf.dlen, hI.dl]
            have hstt := run_state hRf hI.q hf0
            rw [hI.dl] at hstt
            have HST := hide hstt
            have HPA := hide hpa
            have HDL := hide hdl
            have W1 := hide w1
            have hnext : ∀ w', At2 L1 w0 w' s' → ∃ L', SInv w w' wb rb (j + 1) L' s' ta' tc' xs' := fun w' hA' =>
              hM.next hA' (run_quiet hRf hI.q hf0) w1 (unhide hOS).2 hpa hdl (fun n => by have := hRf.logLen n; have := hI.ll n; omega)
            have HNX := hide hnext
            have hwat : ∀ w', At2 L1 w0 w' s' → WrAt w' la ws := fun w' hA' => by
              obtain ⟨L', _, _, hE'⟩ := hA'
              exact (Owns.keep hM.lo hE' (fun a ha => (hM.lw a ha).1)).wrAt.2
            have HWA := hide hwat
            have hval : ∀ x, x ∈ ws → ∃ m k : Nat, x.part = m ∧ x.key = k ∧ 1 ≤ m ∧ m ≤ 3 ∧ k < 4 ∧ s'.value m k = x.val := fun x hx => by
              obtain ⟨m, e, hm⟩ := hfit.memOf x hx
              have hk := hfit.key x hx
              have h3 := hfit.mem3 m hm
              refine ⟨m, x.key.toNat, e, by omega, h3.1, h3.2, by omega, ?_⟩
              refine run_value hRf hf0 m _ x.val h3.1 hm ?_
              have := findW_mem ws hfit.dis x hx
              rw [e] at this
              rw [show ((x.key.toNat : Nat) : Int) = x.key from by omega]
              exact this
            have HVA := hide hval
            have hlc := hM.lo.cap_le.1
            simp only at hlc
            clear hval hwat hnext hstt hpa hdl hRf hI hM hf0 HFY HA0 HR0 HQ HRUN HORD w1 hA cr hne h60 hq100
            simp only [hl0]
            clear hl0
            go_wp2_with fail
            go_loopw [13] (fun m wr => ∃ mm : Nat, mm ≤ 4 ∧ m = .int .i64 ((mm : Nat) : Int) ∧ At2 L1 w0 wr s') (fun m _ => 4 - (intOf m).toNat)
            case atStart => exact ⟨0, by omega, rfl, hA8⟩
            case round =>
              obtain ⟨mm, hmm, rfl, hAm⟩ := hrel
              clear hA8 cr8
              have crm := unhide HCE _ _ hAm
              by_cases hm3 : mm ≤ 3
              · have hsc : ∀ w', At2 L1 w0 w' s' → Calls Try.prog 12 #[.pointer (some ⟨wb, 0, none⟩), .int .i64 (mm : Int), .int .i64 ((j : Int) + 1)] w' fun e w'' => e = .returned (.tuple #[.int .i64 ((if mm = 0 ∨ mm ∈ members ws then 3 else 0 : Nat) : Int), .int .i64 0]) ∧ At2 L1 w0 w'' s' := fun w' h => by
                  have := state_at2 h (unhide W1) mm (j + 1) (by rw [unhide HPA]; exact hm3) (by omega) (by rw [unhide HDL]; omega)
                  rw [unhide HE, unhide HST mm] at this
                  exact this
                have hmb := fun w' (h : At2 L1 w0 w' s') => member_any la ws.length lc ws (mm : Int) w' rfl (by omega) (unhide HWA w' h)
                by_cases hm0 : mm = 0
                · subst hm0
                  rw [if_pos (.inl rfl)] at hsc
                  have HSC := hide hsc
                  clear hsc hmb
                  go_wp2_with (go_at_call 12; refine (unhide HSC _ hAm).mono ?_; rintro e w12 ⟨rfl, hA12⟩)
                  exact ⟨⟨0 + 1, by omega, by go_num, hA12⟩, by simp [intOf]⟩
                · have hz : ((mm : Int) == 0) = false := by rw [beq_eq_false_iff_ne]; omega
                  by_cases hin : mm ∈ members ws
                  · rw [if_pos (.inr hin)] at hsc
                    have hp : hasPart ws (mm : Int) = true := ((membersTo_mem ws 5 mm).1 hin).2.2
                    rw [hp] at hmb
                    have HSC := hide hsc
                    have HMB := hide hmb
                    clear hsc hmb hp hin hm0
                    go_wp2_with (first
                      | (go_at_call 11; refine (unhide HMB _ hAm).mono ?_; rintro e w11 ⟨rfl, rfl⟩)
                      | (go_at_call 12; refine (unhide HSC _ hAm).mono ?_; rintro e w12 ⟨rfl, hA12⟩))
                    exact ⟨⟨mm + 1, by omega, by go_num, hA12⟩, by simp [intOf]; omega⟩
                  · rw [if_neg (by simp [hm0, hin])] at hsc
                    have hp : hasPart ws (mm : Int) = false := by
                      cases hpp : hasPart ws (mm : Int) with
                      | false => rfl
                      | true => exact absurd ((membersTo_mem ws 5 mm).2 ⟨by omega, by omega, hpp⟩) hin
                    rw [hp] at hmb
                    have HSC := hide hsc
                    have HMB := hide hmb
                    clear hsc hmb hp hin hm0
                    go_wp2_with (first
                      | (go_at_call 11; refine (unhide HMB _ hAm).mono ?_; rintro e w11 ⟨rfl, rfl⟩)
                      | (go_at_call 12; refine (unhide HSC _ hAm).mono ?_; rintro e w12 ⟨rfl, hA12⟩))
                    exact ⟨⟨mm + 1, by omega, by go_num, hA12⟩, by simp [intOf]; omega⟩
              · clear HST
                go_wp2_with fail
                go_loopw [17] (fun k wr => ∃ kk : Nat, kk ≤ ws.length ∧ k = .int .i64 ((kk : Nat) : Int) ∧ At2 L1 w0 wr s') (fun k _ => ws.length - (intOf k).toNat)
                case atStart => exact ⟨0, by omega, rfl, hAm⟩
                case round =>
                  obtain ⟨kk, hkk, rfl, hAk⟩ := hrel
                  clear hAm crm
                  have crk := unhide HCE _ _ hAk
                  by_cases hkl : kk < ws.length
                  · have hx : ws[kk]? = some ws[kk] := List.getElem?_eq_getElem _
                    generalize ws[kk] = x at hx
                    obtain ⟨m, k, e1, e2, h1, h3, h4, hv⟩ := unhide HVA x (List.mem_of_getElem? hx)
                    rcases unhide HWA _ hAk with h0 | ⟨gl, ol, ha, hgl, hcl⟩
                    · rw [h0] at hkl; simp at hkl
                    · subst ha
                      obtain ⟨z0, z1, z2⟩ := hcl kk x hx
                      have hz2 : ∀ w', At2 L1 w0 w' s' → w'.cell? ⟨gl, ol + kk * 3, none⟩ = some (.int .i64 x.part) ∧ w'.cell? ⟨gl, ol + kk * 3 + 1, none⟩ = some (.int .i64 x.key) ∧ w'.cell? ⟨gl, ol + kk * 3 + 2, none⟩ = some (.int .i64 x.val) := fun w' h => by
                        rcases unhide HWA _ h with h0 | ⟨gl', ol', ha', _, hcl'⟩
                        · rw [h0] at hkl; simp at hkl
                        · injection ha' with ha'
                          injection ha' with g1 g2
                          subst g1 g2
                          exact hcl' kk x hx
                      have HZ2 := hide hz2
                      have hvc : ∀ w', At2 L1 w0 w' s' → Calls Try.prog 13 #[.pointer (some ⟨wb, 0, none⟩), .int .i64 x.part, .int .i64 x.key] w' fun e w'' => e = .returned (.tuple #[.int .i64 x.val, .int .i64 0]) ∧ At2 L1 w0 w'' s' := fun w' h => by
                        have := value_at2 h (unhide W1) m k (by rw [unhide HPA]; exact h3) h1 h4
                        rw [unhide HE, hv] at this
                        rw [e1, e2]
                        exact this
                      have HVC := hide hvc
                      clear hvc hz2 hcl hx hv e1 e2 h1 h3 h4 z2
                      go_wp2_with fail
                      go_region_held3 (fun w' => w'.cell? ⟨rb, 0, none⟩ = some (.pointer (some ⟨wb, 0, none⟩)) ∧ w'.cell? ⟨gl, ol + kk * 3, none⟩ = some (.int .i64 x.part) ∧ w'.cell? ⟨gl, ol + kk * 3 + 1, none⟩ = some (.int .i64 x.key)) (go_keep)
                        (first
                          | (go_at_call 13; refine (unhide HVC _ (At2.drew hAk)).mono ?_; rintro e w13 ⟨rfl, hA13⟩; have cr13 := unhide HCE _ _ hA13; obtain ⟨y0, y1, y2⟩ := unhide HZ2 _ hA13))
                      go_wp2
                      exact ⟨⟨kk + 1, by omega, by go_num, hA13⟩, by simp [intOf]; omega⟩
                  · go_wp2
                    obtain ⟨L', hS'⟩ := unhide HNX _ hAk
                    exact ⟨⟨j + 1, L', s', ta', tc', xs', by omega, by omega, by go_num, hS'⟩, by simp [intOf]; omega⟩
    · have hl0 : s.fly.length = 0 := by rw [hI.q.fly]; rfl
      have hfy := flying_any hI.rep (by omega)
      rw [hI.ew, hl0] at hfy
      have HFY := hide hfy
      have r0 := hI.r0
      have HI := hide hI
      clear hfy hl0 hI
      by_cases hjr : j < rn
      · have hj12' : j = 12 := by omega
        have hjt : (12 : Int) ≤ (j : Int) := by omega
        clear hj12' hgo
        go_wp2_with (go_at_call 8; refine (unhide HFY).mono ?_; rintro e w9 ⟨a9, c9, rfl, hl9, _⟩)
        go_ret
        obtain ⟨_, hE9⟩ := hl9
        exact ⟨rfl, (unhide HI).bl.trans ((unhide HI).fr.step hE9 (unhide HI).bl.size).2⟩
      · clear hgo
        go_wp2_with (go_at_call 8; refine (unhide HFY).mono ?_; rintro e w9 ⟨a9, c9, rfl, hl9, _⟩)
        go_ret
        obtain ⟨_, hE9⟩ := hl9
        exact ⟨rfl, (unhide HI).bl.trans ((unhide HI).fr.step hE9 (unhide HI).bl.size).2⟩
end Go.Proofs.Ytekbjlhbjcikdaa
