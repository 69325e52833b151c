/-
  accordkeep's Run in memory: the program's world, and the transactions' writes beside it.
-/
import Derived.Test.YtekbjlhbjcikdaaGreatS1
namespace Go.Proofs.YtekbjlhbjcikdaaGreat
open Go.RowKit Acc Go.MuLone

inductive KTag where
  | run | trans | tran (i : Nat)
structure KLay where
  rb : Nat
  tv : Sl
  tl : Nat → Sl
  own : Nat → Option KTag

structure KRep (w : World) (K : KLay) (wb : Nat) (ds : List (List Wr)) : Prop where
  r0 : w.cell? ⟨K.rb, 0, none⟩ = some (.pointer (some ⟨wb, 0, none⟩))
  r1 : w.cell? ⟨K.rb, 1, none⟩ = some (.slice K.tv.a K.tv.n K.tv.cap)
  rf : ∀ k, w.frozen? ⟨K.rb, k, none⟩ = false
  tr : Owns w 52 1 K.tv (slCells K.tl ds.length)
  tw : ∀ i, i < ds.length → Owns w 74 3 (K.tl i) (wrCells (ds.getD i []))
  g0 : K.own K.rb = some .run
  g1 : ∀ a, K.tv.a = some a → K.own a.block = some .trans
  g2 : ∀ i, i < ds.length → ∀ a, (K.tl i).a = some a → K.own a.block = some (.tran i)
  lt : ∀ b t, K.own b = some t → b < w.heap.size

theorem KRep.frame {w w' : World} {K : KLay} {wb : Nat} {ds : List (List Wr)} (h : KRep w K wb ds) (hs : w.heap.size ≤ w'.heap.size) (hb : ∀ b t, K.own b = some t → w'.heap[b]? = w.heap[b]?) : KRep w' K wb ds where
  r0 := (World.cell?_of_block (hb _ _ h.g0)).trans h.r0
  r1 := (World.cell?_of_block (hb _ _ h.g0)).trans h.r1
  rf := fun k => (World.frozen?_of_block (hb _ _ h.g0)).trans (h.rf k)
  tr := h.tr.frame fun a ha => hb _ _ (h.g1 a ha)
  tw := fun i hi => (h.tw i hi).frame fun a ha => hb _ _ (h.g2 i hi a ha)
  g0 := h.g0
  g1 := h.g1
  g2 := h.g2
  lt := fun b t hbt => Nat.lt_of_lt_of_le (h.lt b t hbt) hs
theorem KRep.below {w w' : World} {K : KLay} {wb : Nat} {ds : List (List Wr)} (h : KRep w K wb ds) (hb : Below w.heap.size w w') : KRep w' K wb ds := h.frame hb.size fun b t hbt => hb.block b (h.lt b t hbt)

def Apart (L : Lay) (K : KLay) : Prop := ∀ b t, K.own b = some t → own2 L b = none
def ownK (L : Lay) (K : KLay) : Nat → Option Unit := fun b => if (own2 L b).isSome = true ∨ (K.own b).isSome = true then some () else none
theorem ownK_none {L : Lay} {K : KLay} {b : Nat} : ownK L K b = none ↔ own2 L b = none ∧ K.own b = none := by
  unfold ownK
  cases own2 L b <;> cases K.own b <;> simp

structure Kp (w : World) (L : Lay) (K : KLay) (s : St) : Prop where
  rep : RepW w L s
  run : KRep w K L.wb s.deals
  ap : Apart L K
  ok : Ok s
  p3 : s.parts = 3
/-- From w0 on all has gone on: the program's world is s; what neither it nor the run owned stands as it stood. -/
def Kt (o : Nat → Option Unit) (w0 : World) (rb wb : Nat) (w : World) (s : St) : Prop := ∃ L K, K.rb = rb ∧ L.wb = wb ∧ Kp w L K s ∧ Ext o w0 (ownK L K) w

theorem Kp.refl {w : World} {L : Lay} {K : KLay} {s : St} (h : Kp w L K s) : Kt (ownK L K) w K.rb L.wb w s := ⟨L, K, rfl, rfl, h, Ext.refl _ _⟩
theorem Kt.trans {o : Nat → Option Unit} {w0 w1 w2 : World} {rb wb : Nat} {L : Lay} {K : KLay} {s : St} (he : Ext o w0 (ownK L K) w1) (h : Kt (ownK L K) w1 rb wb w2 s) : Kt o w0 rb wb w2 s := by
  obtain ⟨L', K', a, b, c, d⟩ := h
  exact ⟨L', K', a, b, c, he.trans d⟩
theorem Kt.ok {o : Nat → Option Unit} {w0 w1 : World} {rb wb : Nat} {s : St} (h : Kt o w0 rb wb w1 s) : Ok s ∧ s.parts = 3 := by
  obtain ⟨L', K', a, b, c, d⟩ := h
  exact ⟨c.ok, c.p3⟩
/-- What a call under the lock leaves of the world leaves the run alone. -/
theorem KRep.leaves {w w' : World} {L : Lay} {K : KLay} {s' : St} {ds : List (List Wr)} (h : KRep w K L.wb ds) (ap : Apart L K) (hl : LeavesW L w s' w') :
    ∃ L', L'.wb = L.wb ∧ RepW w' L' s' ∧ KRep w' K L'.wb ds ∧ Apart L' K ∧ Ext (ownK L K) w (ownK L' K) w' := by
  obtain ⟨L', e1, _, hR, hE⟩ := hl
  have hk : ∀ b t, K.own b = some t → w'.heap[b]? = w.heap[b]? ∧ own2 L' b = none := fun b t hb => hE.keep b (h.lt b t hb) (ap b t hb)
  refine ⟨L', e1, hR, ?_, fun b t hb => (hk b t hb).2, hE.os, hE.tape, hE.output, hE.size, ?_⟩
  · rw [e1]; exact h.frame hE.size fun b t hb => (hk b t hb).1
  · intro b hb hn
    obtain ⟨n1, n2⟩ := ownK_none.1 hn
    obtain ⟨k1, k2⟩ := hE.keep b hb n1
    exact ⟨k1, ownK_none.2 ⟨k2, n2⟩⟩
theorem Kp.leaves {w w' : World} {L : Lay} {K : KLay} {s s' : St} (h : Kp w L K s) (hl : LeavesW L w s' w') (hd : s'.deals = s.deals) (hp : s'.parts = s.parts) (hk : Ok s') : Kt (ownK L K) w K.rb L.wb w' s' := by
  obtain ⟨L', e1, hR, hK, hA, hE⟩ := h.run.leaves h.ap hl
  exact ⟨L', K, rfl, e1, ⟨hR, by rw [hd]; exact hK, hA, hk, hp.trans h.p3⟩, hE⟩
theorem Kp.reads {w w' : World} {L : Lay} {K : KLay} {s : St} (h : Kp w L K s) (hl : ReadsW L w s w') : Kp w' L K s ∧ Ext (ownK L K) w (ownK L K) w' := by
  have hk : ∀ b t, K.own b = some t → w'.heap[b]? = w.heap[b]? := fun b t hb => (hl.2.keep b (h.run.lt b t hb) (h.ap b t hb)).1
  refine ⟨⟨hl.1, h.run.frame hl.2.size hk, h.ap, h.ok, h.p3⟩, hl.2.os, hl.2.tape, hl.2.output, hl.2.size, ?_⟩
  intro b hb hn
  exact ⟨(hl.2.keep b hb (ownK_none.1 hn).1).1, hn⟩
theorem Kp.below {w w' : World} {L : Lay} {K : KLay} {s : St} (h : Kp w L K s) (hb : Below w.heap.size w w') : Kp w' L K s := ⟨h.rep.below hb, h.run.below hb, h.ap, h.ok, h.p3⟩
theorem Kt.below {o : Nat → Option Unit} {w0 w1 w2 : World} {rb wb : Nat} {s : St} (h : Kt o w0 rb wb w1 s) (hb : Below w1.heap.size w1 w2) : Kt o w0 rb wb w2 s := by
  obtain ⟨L, K, a, b, c, d⟩ := h
  exact ⟨L, K, a, b, c.below hb, d.trans (Ext.of_below hb)⟩
theorem Kt.drew {o : Nat → Option Unit} {w0 w1 : World} {rb wb : Nat} {s : St} (h : Kt o w0 rb wb w1 s) : Kt o w0 rb wb w1.drew s := h.below (Below.refl _ _).drew
theorem Kt.cells {o : Nat → Option Unit} {w0 w1 : World} {rb wb : Nat} {s : St} (h : Kt o w0 rb wb w1 s) :
    w1.cell? ⟨rb, 0, none⟩ = some (.pointer (some ⟨wb, 0, none⟩)) ∧ ∃ a c, w1.cell? ⟨rb, 1, none⟩ = some (.slice a s.deals.length c) := by
  obtain ⟨L, K, rfl, rfl, c, d⟩ := h
  refine ⟨c.run.r0, K.tv.a, K.tv.cap, ?_⟩
  have hl := c.run.tr.len
  rw [slCells_length] at hl
  rw [c.run.r1, show K.tv.n = s.deals.length from by omega]
theorem Kt.keep {o : Nat → Option Unit} {w0 w1 : World} {rb wb : Nat} {s : St} (h : Kt o w0 rb wb w1 s) {b : Nat} (hb : b < w0.heap.size) (hn : o b = none) : w1.heap[b]? = w0.heap[b]? := by
  obtain ⟨L, K, _, _, _, d⟩ := h
  exact (d.keep b hb hn).1
/-- The writes of a transaction, as the run keeps them. -/
theorem Kt.tran {o : Nat → Option Unit} {w0 w1 : World} {rb wb : Nat} {s : St} (h : Kt o w0 rb wb w1 s) (i : Nat) (hi : i < s.deals.length) :
    ∃ g c a n cap, w1.cell? ⟨rb, 1, none⟩ = some (.slice (some ⟨g, 0, none⟩) s.deals.length c) ∧ s.deals.length ≤ c ∧ w1.cell? ⟨g, i, none⟩ = some (.slice a n cap) ∧ n = (s.deals.getD i []).length ∧ WrAt w1 a (s.deals.getD i []) := by
  obtain ⟨L, K, rfl, rfl, c, d⟩ := h
  have hl := c.run.tr.len
  rw [slCells_length] at hl
  obtain ⟨g, ha, hcap, _, hc⟩ := c.run.tr.at (by omega)
  have hw := (c.run.tw i hi).wrAt
  refine ⟨g, K.tv.cap, (K.tl i).a, (K.tl i).n, (K.tl i).cap, ?_, by omega, hc i _ (slCells_get _ _ _ hi), hw.1, hw.2⟩
  rw [c.run.r1, ha, show K.tv.n = s.deals.length from by omega]

/-- A call that does something with the world, as it leaves the run. -/
theorem Kt.act {o : Nat → Option Unit} {w0 w1 : World} {rb wb : Nat} {s s' : St} {f : Nat} {args : Nat → Array Value} {e0 : Ending} (h : Kt o w0 rb wb w1 s) (hd : s'.deals = s.deals) (hp : s'.parts = s.parts) (hk : Ok s')
    (c : ∀ L, RepW w1 L s → Calls Tryz.prog f (args L.wb) w1 fun e w' => e = e0 ∧ LeavesW L w1 s' w') : Calls Tryz.prog f (args wb) w1 fun e w' => e = e0 ∧ Kt o w0 rb wb w' s' := by
  obtain ⟨L, K, rfl, rfl, hp', hE⟩ := h
  refine (c L hp'.rep).mono ?_
  rintro e w2 ⟨rfl, hl⟩
  exact ⟨rfl, Kt.trans hE (hp'.leaves hl hd hp hk)⟩
theorem Kt.look {o : Nat → Option Unit} {w0 w1 : World} {rb wb : Nat} {s : St} {f : Nat} {args : Nat → Array Value} {e0 : Ending} (h : Kt o w0 rb wb w1 s)
    (c : ∀ L, RepW w1 L s → Calls Tryz.prog f (args L.wb) w1 fun e w' => e = e0 ∧ ReadsW L w1 s w') : Calls Tryz.prog f (args wb) w1 fun e w' => e = e0 ∧ Kt o w0 rb wb w' s :=
  h.act rfl rfl h.ok.1 fun L hR => (c L hR).mono fun _ _ hh => ⟨hh.1, hh.2.leaves⟩

theorem deliver_kt {o : Nat → Option Unit} {w0 w1 : World} {rb wb : Nat} {s : St} (h : Kt o w0 rb wb w1 s) (i : Int) :
    Calls Tryz.prog 34 #[.pointer (some ⟨wb, 0, none⟩), .int .i64 i] w1 fun e w' => e = .returned (.int .i64 ((s.deliverP i).2 : Nat)) ∧ Kt o w0 rb wb w' (s.deliverP i).1 := by
  refine h.act (args := fun b => #[.pointer (some ⟨b, 0, none⟩), .int .i64 i]) ?_ ?_ (h.ok.1.deliverP i) fun L hR => deliver_any hR h.ok.1 i
  · unfold St.deliverP; split; exact (dlv_deals _ _).1; rfl
  · unfold St.deliverP; split; exact (dlv_deals _ _).2; rfl
theorem drop_kt {o : Nat → Option Unit} {w0 w1 : World} {rb wb : Nat} {s : St} (h : Kt o w0 rb wb w1 s) (i : Int) :
    Calls Tryz.prog 30 #[.pointer (some ⟨wb, 0, none⟩), .int .i64 i] w1 fun e w' => e = .returned (.int .i64 ((s.dropP i).2 : Nat)) ∧ Kt o w0 rb wb w' (s.dropP i).1 := by
  refine h.act (args := fun b => #[.pointer (some ⟨b, 0, none⟩), .int .i64 i]) ?_ ?_ (h.ok.1.dropP i) fun L hR => drop_any hR h.ok.1 i
  · unfold St.dropP; split <;> rfl
  · unfold St.dropP; split <;> rfl
theorem double_kt {o : Nat → Option Unit} {w0 w1 : World} {rb wb : Nat} {s : St} (h : Kt o w0 rb wb w1 s) (i : Int) :
    Calls Tryz.prog 82 #[.pointer (some ⟨wb, 0, none⟩), .int .i64 i] w1 fun e w' => e = .returned (.int .i64 ((s.doubleP i).2 : Nat)) ∧ Kt o w0 rb wb w' (s.doubleP i).1 := by
  refine h.act (args := fun b => #[.pointer (some ⟨b, 0, none⟩), .int .i64 i]) ?_ ?_ (h.ok.1.doubleP i) fun L hR => double_any hR h.ok.1 i
  · unfold St.doubleP St.dbl; split; split <;> rfl; rfl
  · unfold St.doubleP St.dbl; split; split <;> rfl; rfl
theorem tick_kt {o : Nat → Option Unit} {w0 w1 : World} {rb wb : Nat} {s : St} (h : Kt o w0 rb wb w1 s) (i : Int) :
    Calls Tryz.prog 26 #[.pointer (some ⟨wb, 0, none⟩), .int .i64 i] w1 fun e w' => e = .returned (.int .i64 ((s.tickP i).2 : Nat)) ∧ Kt o w0 rb wb w' (s.tickP i).1 := by
  refine h.act (args := fun b => #[.pointer (some ⟨b, 0, none⟩), .int .i64 i]) ?_ ?_ (h.ok.1.tickP i) fun L hR => tick_any hR h.ok.1 i
  · unfold St.tickP; split; exact (tick_deals _ _).1; rfl
  · unfold St.tickP; split; exact (tick_deals _ _).2; rfl
theorem crash_kt {o : Nat → Option Unit} {w0 w1 : World} {rb wb : Nat} {s : St} (h : Kt o w0 rb wb w1 s) (i : Int) :
    Calls Tryz.prog 23 #[.pointer (some ⟨wb, 0, none⟩), .int .i64 i] w1 fun e w' => e = .returned (.int .i64 ((s.crashP i).2 : Nat)) ∧ Kt o w0 rb wb w' (s.crashP i).1 := by
  refine h.act (args := fun b => #[.pointer (some ⟨b, 0, none⟩), .int .i64 i]) ?_ ?_ (h.ok.1.crashP i) fun L hR => crash_any hR h.ok.1 i
  · unfold St.crashP; split <;> rfl
  · unfold St.crashP; split <;> rfl
theorem recover_kt {o : Nat → Option Unit} {w0 w1 : World} {rb wb : Nat} {s : St} (h : Kt o w0 rb wb w1 s) (i : Int) :
    Calls Tryz.prog 24 #[.pointer (some ⟨wb, 0, none⟩), .int .i64 i] w1 fun e w' => e = .returned (.int .i64 ((s.recoverP i).2 : Nat)) ∧ Kt o w0 rb wb w' (s.recoverP i).1 := by
  refine h.act (args := fun b => #[.pointer (some ⟨b, 0, none⟩), .int .i64 i]) ?_ ?_ (h.ok.1.recoverP i) fun L hR => recover_any hR h.ok.1 i
  · unfold St.recoverP; split; exact (rcv_deals _ _).1; rfl
  · unfold St.recoverP; split; exact (rcv_deals _ _).2; rfl
theorem fuse_kt {o : Nat → Option Unit} {w0 w1 : World} {rb wb : Nat} {s : St} (h : Kt o w0 rb wb w1 s) (i a : Int) (ha : a < 9223372036854775808) :
    Calls Tryz.prog 39 #[.pointer (some ⟨wb, 0, none⟩), .int .i64 i, .int .i64 a] w1 fun e w' => e = .returned (.int .i64 ((s.fuseP i a).2 : Nat)) ∧ Kt o w0 rb wb w' (s.fuseP i a).1 := by
  refine h.act (args := fun b => #[.pointer (some ⟨b, 0, none⟩), .int .i64 i, .int .i64 a]) ?_ ?_ (h.ok.1.fuseP i a ha) fun L hR => fuse_any hR h.ok.1 i a
  · unfold St.fuseP; split; split <;> rfl; rfl
  · unfold St.fuseP; split; split <;> rfl; rfl
theorem up_kt {o : Nat → Option Unit} {w0 w1 : World} {rb wb : Nat} {s : St} (h : Kt o w0 rb wb w1 s) (i : Int) :
    Calls Tryz.prog 22 #[.pointer (some ⟨wb, 0, none⟩), .int .i64 i] w1 fun e w' => e = .returned (.tuple #[.bool (s.upP i).1, .int .i64 ((s.upP i).2 : Nat)]) ∧ Kt o w0 rb wb w' s :=
  h.look (args := fun b => #[.pointer (some ⟨b, 0, none⟩), .int .i64 i]) fun _ hR => up_any hR h.ok.1 i
theorem state_kt {o : Nat → Option Unit} {w0 w1 : World} {rb wb : Nat} {s : St} (h : Kt o w0 rb wb w1 s) (i t : Int) :
    Calls Tryz.prog 20 #[.pointer (some ⟨wb, 0, none⟩), .int .i64 i, .int .i64 t] w1 fun e w' => e = .returned (.tuple #[.int .i64 ((s.stateP i t).1 : Nat), .int .i64 ((s.stateP i t).2 : Nat)]) ∧ Kt o w0 rb wb w' s :=
  h.look (args := fun b => #[.pointer (some ⟨b, 0, none⟩), .int .i64 i, .int .i64 t]) fun _ hR => state_any hR h.ok.1 i t
theorem value_kt {o : Nat → Option Unit} {w0 w1 : World} {rb wb : Nat} {s : St} (h : Kt o w0 rb wb w1 s) (i k : Int) :
    Calls Tryz.prog 51 #[.pointer (some ⟨wb, 0, none⟩), .int .i64 i, .int .i64 k] w1 fun e w' => e = .returned (.tuple #[.int .i64 (s.valueP i k).1, .int .i64 ((s.valueP i k).2 : Nat)]) ∧ Kt o w0 rb wb w' s :=
  h.look (args := fun b => #[.pointer (some ⟨b, 0, none⟩), .int .i64 i, .int .i64 k]) fun _ hR => value_any hR h.ok.1 i k
theorem holder_kt {o : Nat → Option Unit} {w0 w1 : World} {rb wb : Nat} {s : St} (h : Kt o w0 rb wb w1 s) (i k : Int) :
    Calls Tryz.prog 28 #[.pointer (some ⟨wb, 0, none⟩), .int .i64 i, .int .i64 k] w1 fun e w' => e = .returned (.tuple #[.int .i64 ((s.holderP i k).1 : Nat), .int .i64 ((s.holderP i k).2 : Nat)]) ∧ Kt o w0 rb wb w' s :=
  h.look (args := fun b => #[.pointer (some ⟨b, 0, none⟩), .int .i64 i, .int .i64 k]) fun _ hR => holder_any hR h.ok.1 i k
theorem flying_kt {o : Nat → Option Unit} {w0 w1 : World} {rb wb : Nat} {s : St} (h : Kt o w0 rb wb w1 s) :
    Calls Tryz.prog 29 #[.pointer (some ⟨wb, 0, none⟩)] w1 fun e w' => ∃ a cap, e = .returned (.slice a s.fly.length cap) ∧ Kt o w0 rb wb w' s := by
  obtain ⟨L, K, rfl, rfl, hp', hE⟩ := h
  refine (flying_any hp'.rep hp'.ok.inv.fl).mono ?_
  rintro e w2 ⟨a, cap, rfl, hl, _⟩
  obtain ⟨h1, h2⟩ := hp'.reads hl
  exact ⟨a, cap, rfl, L, K, rfl, rfl, h1, hE.trans h2⟩
/-- Log's answer is memory that nobody else owns. -/
theorem log_kt {o : Nat → Option Unit} {w0 w1 : World} {rb wb : Nat} {s : St} (h : Kt o w0 rb wb w1 s) (i : Int) :
    Calls Tryz.prog 18 #[.pointer (some ⟨wb, 0, none⟩), .int .i64 i] w1 fun e w' => ∃ a cap, e = .returned (.tuple #[.slice a (s.logP i).1.length cap, .int .i64 ((s.logP i).2 : Nat)]) ∧ Kt o w0 rb wb w' s ∧
      w'.ownsRow w1.heap.size 43 2 (.slice a (s.logP i).1.length cap) (s.logP i).1.length (recCells (s.logP i).1) ∧
      ∃ L K, K.rb = rb ∧ L.wb = wb ∧ Kp w' L K s ∧ Ext o w0 (ownK L K) w' ∧ ∀ b, w1.heap.size ≤ b → ownK L K b = none := by
  obtain ⟨L, K, rfl, rfl, hp', hE⟩ := h
  refine (log_any hp'.rep hp'.ok i).mono ?_
  rintro e w2 ⟨a, cap, rfl, hl, ho⟩
  obtain ⟨h1, h2⟩ := hp'.reads hl
  refine ⟨a, cap, rfl, ⟨L, K, rfl, rfl, h1, hE.trans h2⟩, ho, L, K, rfl, rfl, h1, hE.trans h2, ?_⟩
  intro b hb
  refine ownK_none.2 ⟨?_, ?_⟩
  · unfold own2
    rw [if_neg (by have := hp'.rep.wlt; omega)]
    exact hp'.rep.rep.free hb
  · cases ho : K.own b with
    | none => rfl
    | some t => have := hp'.run.lt b t ho; omega

end Go.Proofs.YtekbjlhbjcikdaaGreat
