/-
  accordkeep: one transaction more is kept beside the world.
-/
import Derived.Test.YtekbjlhbjcikdaaGreatK5
namespace Go.Proofs.YtekbjlhbjcikdaaGreat
open Go.RowKit Acc Go.MuLone

theorem RepW.frame {w w' : World} {L : Lay} {s : St} (h : RepW w L s) (hs : w.heap.size ≤ w'.heap.size) (hb : ∀ b t, own2 L b = some t → w'.heap[b]? = w.heap[b]?) : RepW w' L s := by
  have hbw : own2 L L.wb = some .world := by simp [own2]
  have hbo : ∀ b t, L.own b = some t → own2 L b = some t := by
    intro b t hb
    unfold own2
    rw [if_neg (by intro e; rw [e, h.fr] at hb; cases hb)]
    exact hb
  exact ⟨h.rep.frame hs (fun b t hbt => hb b t (hbo b t hbt)), (World.cell?_of_block (a := ⟨L.wb, 0, none⟩) (hb _ _ hbw)).trans h.l0, (World.cell?_of_block (a := ⟨L.wb, 2, none⟩) (hb _ _ hbw)).trans h.l2, (World.frozen?_of_block (a := ⟨L.wb, 0, none⟩) (hb _ _ hbw)).trans h.lf, h.fr⟩
theorem RepW.own2_lt {w : World} {L : Lay} {s : St} (h : RepW w L s) {b : Nat} {t : Tag} (hb : own2 L b = some t) : b < w.heap.size := by
  unfold own2 at hb
  split at hb
  · rename_i e; rw [e]; exact h.wlt
  · exact h.rep.lt b t hb
theorem RepW.own2_free {w : World} {L : Lay} {s : St} (h : RepW w L s) {b : Nat} (hb : w.heap.size ≤ b) : own2 L b = none := by
  cases ho : own2 L b with
  | none => rfl
  | some t => have := h.own2_lt ho; omega
theorem KRep.free {w : World} {K : KLay} {wb : Nat} {ds : List (List Wr)} (h : KRep w K wb ds) {b : Nat} (hb : w.heap.size ≤ b) : K.own b = none := by
  cases ho : K.own b with
  | none => rfl
  | some t => have := h.lt b t ho; omega

/-- One list of writes more. -/
theorem KRep.stored {w w3 : World} {K : KLay} {wb : Nat} {ds : List (List Wr)} (h : KRep w K wb ds) (ws : List Wr) {k g n cap cap' : Nat} (hu : Upd w w3 K.own .trans k)
    (g1 : w3.ownsRow 0 52 1 (.slice (some ⟨k, 0, none⟩) (ds.length + 1) cap') (ds.length + 1) (slCells K.tl ds.length ++ [.slice (some ⟨g, 0, none⟩) n cap]))
    (hd : w3.ownsRow 0 74 3 (.slice (some ⟨g, 0, none⟩) n cap) n (wrCells ws)) (hgn : K.own g = none) (hgk : g ≠ k) (hgl : g < w3.heap.size) :
    w3.cell? ⟨K.rb, 1, none⟩ = some (.slice K.tv.a K.tv.n K.tv.cap) ∧ w3.frozen? ⟨K.rb, 1, none⟩ = false ∧
    ∃ K', K'.rb = K.rb ∧ KRep (w3.setCell ⟨K.rb, 1, none⟩ (.slice (some ⟨k, 0, none⟩) (ds.length + 1) cap')) K' wb (ds ++ [ws]) ∧ ∀ b t, K'.own b = some t → K.own b = some t ∨ b = k ∨ b = g := by
  have hk := hu.tagged
  have br : w3.heap[K.rb]? = w.heap[K.rb]? := hu.keep _ _ h.g0 (by simp)
  have krb : k ≠ K.rb := by
    intro e; rw [e] at hk
    rcases hk with hk | hk <;> rw [h.g0] at hk <;> cases hk
  have grb : g ≠ K.rb := by intro e; rw [e, h.g0] at hgn; cases hgn
  have c1 : w3.cell? ⟨K.rb, 1, none⟩ = some (.slice K.tv.a K.tv.n K.tv.cap) := (World.cell?_of_block (a := ⟨K.rb, 1, none⟩) br).trans h.r1
  have f1 : ∀ q, w3.frozen? ⟨K.rb, q, none⟩ = false := fun q => (World.frozen?_of_block (a := ⟨K.rb, q, none⟩) br).trans (h.rf q)
  have old : ∀ b u, K.own b = some u → u ≠ .trans → retag (retag K.own k .trans) g (.tran ds.length) b = some u := by
    intro b u hb hu'
    have h1 : retag K.own k .trans b = some u := retag_old hk hb hu'
    unfold retag at h1 ⊢
    rw [if_neg (by intro e; rw [e, hgn] at hb; cases hb)]
    exact h1
  refine ⟨c1, f1 1, { K with tv := ⟨some ⟨k, 0, none⟩, ds.length + 1, cap'⟩, tl := fun i => if i = ds.length then ⟨some ⟨g, 0, none⟩, n, cap⟩ else K.tl i, own := retag (retag K.own k .trans) g (.tran ds.length) }, rfl, ?_, ?_⟩
  · have hl : (ds ++ [ws]).length = ds.length + 1 := by simp
    refine ⟨?_, ?_, ?_, ?_, ?_, old _ _ h.g0 (by simp), ?_, ?_, ?_⟩
    · exact (World.cell?_setCell_other _ _ _ _ (by simp)).trans ((World.cell?_of_block (a := ⟨K.rb, 0, none⟩) br).trans h.r0)
    · exact World.cell?_setCell_same _ _ _ c1
    · intro q; simpa using f1 q
    · rw [hl]
      have e : slCells (fun t => if t = ds.length then (⟨some ⟨g, 0, none⟩, n, cap⟩ : Sl) else K.tl t) (ds.length + 1) = slCells K.tl ds.length ++ [.slice (some ⟨g, 0, none⟩) n cap] := by
        simp only [slCells, if_true]
        rw [slCells_congr _ K.tl ds.length (fun i hi => by rw [if_neg (by omega)])]
      show Owns _ _ _ _ (slCells (fun t => if t = ds.length then (⟨some ⟨g, 0, none⟩, n, cap⟩ : Sl) else K.tl t) (ds.length + 1))
      rw [e]
      exact (Owns.of_row g1).frame fun a ha => by simp only [Option.some.injEq] at ha; subst ha; exact block_setCell krb
    · intro t ht
      rw [hl] at ht
      simp only
      rw [getD_snoc]
      by_cases e : t = ds.length
      · rw [if_pos e, if_pos e]
        exact (Owns.of_row hd).frame fun a ha => by simp only [Option.some.injEq] at ha; subst ha; exact block_setCell grb
      · rw [if_neg e, if_neg e]
        refine (h.tw t (by omega)).frame fun a ha => ?_
        rw [block_setCell (tag_ne (h.g2 t (by omega) a ha) h.g0 (by simp))]
        exact hu.keep _ _ (h.g2 t (by omega) a ha) (by simp)
    · intro a ha
      simp only [Option.some.injEq] at ha
      subst ha
      simp [retag, Ne.symm hgk]
    · intro t ht a ha
      rw [hl] at ht
      by_cases e : t = ds.length
      · simp only [if_pos e, Option.some.injEq] at ha
        subst ha
        simp [retag, e]
      · simp only [if_neg e] at ha
        exact old _ _ (h.g2 t (by omega) a ha) (by simp)
    · intro b u hb
      have hsz : (w3.setCell ⟨K.rb, 1, none⟩ (.slice (some ⟨k, 0, none⟩) (ds.length + 1) cap')).heap.size = w3.heap.size := by simp [World.setCell]
      rw [hsz]
      simp only [retag] at hb
      split at hb
      · rename_i e; rw [e]; exact hgl
      · split at hb
        · rename_i e; rw [e]; exact hu.klt
        · exact Nat.lt_of_lt_of_le (h.lt b u hb) hu.size
  · intro b t hb
    simp only [retag] at hb
    split at hb
    · rename_i e; exact .inr (.inr e)
    · split at hb
      · rename_i e; exact .inr (.inl e)
      · exact .inl hb

/-- All together, behind the store. -/
theorem kept_more {w w3 : World} {L : Lay} {K : KLay} {s : St} {ds : List (List Wr)} (hR : RepW w L s) (hK : KRep w K L.wb ds) (hA : Apart L K) (ok : Ok s) (p3 : s.parts = 3) (ws : List Wr) (hds : s.deals = ds ++ [ws]) {k g n cap cap' : Nat} (hu : Upd w w3 K.own .trans k)
    (g1 : w3.ownsRow 0 52 1 (.slice (some ⟨k, 0, none⟩) (ds.length + 1) cap') (ds.length + 1) (slCells K.tl ds.length ++ [.slice (some ⟨g, 0, none⟩) n cap]))
    (hd : w3.ownsRow 0 74 3 (.slice (some ⟨g, 0, none⟩) n cap) n (wrCells ws)) (hgw : w.heap.size ≤ g) (hgk : g ≠ k) (hgl : g < w3.heap.size) :
    w3.cell? ⟨K.rb, 1, none⟩ = some (.slice K.tv.a K.tv.n K.tv.cap) ∧ w3.frozen? ⟨K.rb, 1, none⟩ = false ∧ Kt (ownK L K) w K.rb L.wb (w3.setCell ⟨K.rb, 1, none⟩ (.slice (some ⟨k, 0, none⟩) (ds.length + 1) cap')) s := by
  obtain ⟨c1, f1, K', e', hK', hown⟩ := hK.stored ws hu g1 hd (hK.free hgw) hgk hgl
  refine ⟨c1, f1, L, K', e', rfl, ⟨?_, by rw [hds]; exact hK', ?_, ok, p3⟩, ?_⟩
  · refine hR.frame (by have := hu.size; simpa [World.setCell] using this) fun b t hb => ?_
    have hkn : K.own b = none := by
      cases ho : K.own b with
      | none => rfl
      | some t' => have := hA b t' ho; rw [hb] at this; cases this
    rw [block_setCell (fun e => by rw [e] at hkn; rw [hK.g0] at hkn; cases hkn)]
    exact hu.other b (hR.own2_lt hb) hkn
  · intro b t hb
    rcases hown b t hb with h | h | h
    · exact hA b t h
    · rw [h]
      rcases hu.new with h1 | h1
      · exact hA k _ h1
      · exact hR.own2_free h1.2
    · rw [h]; exact hR.own2_free hgw
  · refine ⟨hu.os, hu.tape, hu.output, by have := hu.size; simpa [World.setCell] using this, ?_⟩
    intro b hb hn
    obtain ⟨n1, n2⟩ := ownK_none.1 hn
    refine ⟨?_, ownK_none.2 ⟨n1, ?_⟩⟩
    · rw [block_setCell (fun e => by rw [e] at n2; rw [hK.g0] at n2; cases n2)]
      exact hu.other b hb n2
    · cases ho : K'.own b with
      | none => rfl
      | some t =>
        rcases hown b t ho with h | h | h
        · rw [n2] at h; cases h
        · rcases hu.new with h1 | h1
          · rw [← h, n2] at h1; cases h1
          · omega
        · omega

theorem row_some {w : World} {b e size n cap : Nat} {a : Option Addr} {xs : List Value} (h : w.ownsRow b e size (.slice a n cap) n xs) (hn : 1 ≤ n) : ∃ g, a = some ⟨g, 0, none⟩ := by
  obtain ⟨g, ha, _⟩ := (Owns.of_row (ownsRow_mono h (Nat.zero_le _))).at (by simp; omega)
  exact ⟨g, ha⟩
/-- The append of the new list, and the store. -/
theorem append_more {w w6 w7 : World} {L : Lay} {K : KLay} {s : St} {ds : List (List Wr)} {ws : List Wr} {g lc k cap' n : Nat} (hR : RepW w L s) (hK : KRep w K L.wb ds) (hA : Apart L K) (ok : Ok s) (p3 : s.parts = 3) (hds : s.deals = ds ++ [ws]) (hD : K.tv.n = ds.length)
    (hb : Below w.heap.size w w6) (hl : w6.ownsRow w.heap.size 74 3 (.slice (some ⟨g, 0, none⟩) n lc) n (wrCells ws))
    (g1 : w7.ownsRow 0 52 1 (.slice (some ⟨k, 0, none⟩) (K.tv.n + 1) cap') (K.tv.n + 1) (slCells K.tl ds.length ++ [.slice (some ⟨g, 0, none⟩) n lc]))
    (g2 : (w6.alloc (Obj.cells #[.slice (some ⟨g, 0, none⟩) n lc] 52)).grownBy w7 (Value.slice K.tv.a K.tv.n K.tv.cap).ownBlock) (g3 : K.tv.a = some ⟨k, 0, none⟩ ∨ (w6.alloc (Obj.cells #[.slice (some ⟨g, 0, none⟩) n lc] 52)).heap.size ≤ k) :
    w7.cell? ⟨K.rb, 1, none⟩ = some (.slice K.tv.a K.tv.n K.tv.cap) ∧ w7.frozen? ⟨K.rb, 1, none⟩ = false ∧ Kt (ownK L K) w K.rb L.wb (w7.setCell ⟨K.rb, 1, none⟩ (.slice (some ⟨k, 0, none⟩) (K.tv.n + 1) cap')) s := by
  have hgw : w.heap.size ≤ g ∧ g < w6.heap.size := hl.lt g rfl
  have hu := Upd.of_append' hK.lt hK.g1 (hb.more (below_alloc _ _)) g1 g2 g3
  have hgk : g ≠ k := by
    intro e
    subst e
    rcases g3 with g3 | g3
    · have := hK.lt _ _ (hK.g1 _ g3); simp only at this; omega
    · simp at g3; omega
  have hd : w7.ownsRow 0 74 3 (.slice (some ⟨g, 0, none⟩) n lc) n (wrCells ws) := by
    refine ownsRow_mono (World.ownsRow.kept (World.ownsRow.alloc hl _) g2 ?_) (Nat.zero_le _)
    right
    intro e
    simp only [Value.ownBlock] at e
    split at e
    · rename_i a0 _ _ he
      injection he with he
      have := hK.lt _ _ (hK.g1 _ he)
      injection e with e
      omega
    · cases e
  rw [hD] at g1 ⊢
  have := kept_more hR hK hA ok p3 ws hds hu g1 hd hgw.1 hgk (by have := g2.size; simp at this; omega)
  rw [hD] at this
  exact this

theorem Tryz.infoSl : (Tryz.prog.info? 52).map (fun i => (i.zero, i.size, i.bytes)) = some (some (.slice none 0 0), 1, 24) := by kernel_rfl

theorem writesOf_sound (A B C : Int) (p : Nat) (hp : 3 ≤ p) : soundB (writesOf A B C) p = true := (writesOf_fit A B C).sound (writesOf_len A B C).2 (by have := (writesOf_len A B C).1; omega) p hp

set_option maxRecDepth 100000 in
set_option maxHeartbeats 4000000 in
theorem step_begin_ok {o : Nat → Option Unit} {w0 w1 : World} {rb wb : Nat} {s : St} (h : Kt o w0 rb wb w1 s) (K A B C : Int) (hK : inI K) (hA : inI A) (hB : inI B) (hC : inI C) (hk : ¬ 1 < pickI K 12) (hu : s.up 0 = true) (hd : s.deals.length < 12) :
    Calls Tryz.prog 16 #[.pointer (some ⟨rb, 0, none⟩), .agg #[.int .i64 K, .int .i64 A, .int .i64 B, .int .i64 C]] w1 fun e w' => e = .returned (.bool true) ∧ Kt o w0 rb wb w' (stepP s K A B C) := by
  have hpr := pickI_range K 12 (by omega)
  have hpk := hide (fun w => pick_any K 12 w (by omega) (by omega) hK.1 hK.2)
  have hb1 := below_alloc w1 (Obj.cells #[.int .i64 K, .int .i64 A, .int .i64 B, .int .i64 C] 31)
  obtain ⟨o', hfree, h1, hback⟩ := h.rebase hb1
  have hp3 := h.ok.2
  have hok := h.ok.1
  have hso := writesOf_sound A B C s.parts (by omega)
  have hP : Hid (stepP s K A B C = (s.bgn (writesOf A B C)).1) := by
    show _ = _
    unfold stepP
    rw [if_neg (by omega), if_neg hk]
    unfold St.beginP
    rw [if_pos hso, if_pos hu, if_pos hd]
  have hBP : Hid (s.beginP (writesOf A B C) = ((s.bgn (writesOf A B C)).1, (s.deals.length + 1, 0))) := by
    show _ = _
    unfold St.beginP
    rw [if_pos hso, if_pos hu, if_pos hd]
  have hwr := hide (fun w => writes_any K A B C w hA.1 hA.2 hB.1 hB.2 hC.1 hC.2)
  have hup := up_kt h1 0
  have hu0 : s.upP 0 = (true, 0) := by unfold St.upP; rw [if_pos (by omega)]; simp [hu]
  rw [hu0] at hup
  have HUP := hide hup
  have r0 := h1.cells.1
  have HSO := hide hso
  have hlt1 : w1.heap.size < (w1.alloc (Obj.cells #[.int .i64 K, .int .i64 A, .int .i64 B, .int .i64 C] 31)).heap.size := by simp
  have x0 : (w1.alloc (Obj.cells #[.int .i64 K, .int .i64 A, .int .i64 B, .int .i64 C] 31)).cell? ⟨w1.heap.size, 0, none⟩ = some (.int .i64 K) := by simp [go_sem]
  have x1 : (w1.alloc (Obj.cells #[.int .i64 K, .int .i64 A, .int .i64 B, .int .i64 C] 31)).cell? ⟨w1.heap.size, 1, none⟩ = some (.int .i64 A) := by simp [go_sem]
  have x2 : (w1.alloc (Obj.cells #[.int .i64 K, .int .i64 A, .int .i64 B, .int .i64 C] 31)).cell? ⟨w1.heap.size, 2, none⟩ = some (.int .i64 B) := by simp [go_sem]
  have x3 : (w1.alloc (Obj.cells #[.int .i64 K, .int .i64 A, .int .i64 B, .int .i64 C] 31)).cell? ⟨w1.heap.size, 3, none⟩ = some (.int .i64 C) := by simp [go_sem]
  clear hup hu0 hso hb1
  generalize hW1 : w1.alloc (Obj.cells #[.int .i64 K, .int .i64 A, .int .i64 B, .int .i64 C] 31) = W1 at *
  generalize hk0 : pickI K 12 = k0 at *
  have hbox : ∀ w s', Kt o' W1 rb wb w s' → ∀ q, w.cell? ⟨w1.heap.size, q, none⟩ = W1.cell? ⟨w1.heap.size, q, none⟩ := fun w s' hh q => World.cell?_of_block (a := ⟨w1.heap.size, q, none⟩) (hh.keep hlt1 (hfree _ (Nat.le_refl _)))
  have HBX := hide hbox
  have HFR := hide hfree
  have HHB := hide hback
  have HOK := hide hok
  have HW1 := hide hW1
  have HLT := hide hlt1
  clear hbox hfree hback hok hk0 hlt1 h hp3
  go_enter Tryz.func16, Tryz.ntmps16
  go_wp2_with fail
  clear hW1
  refine (unhide hpk _).mono ?_
  rintro e w2 ⟨rfl, rfl⟩
  go_wp2_with fail
  refine (unhide HUP).mono ?_
  rintro e w3 ⟨rfl, h3⟩
  have y0 := (unhide HBX _ _ h3 0).trans x0
  have y1 := (unhide HBX _ _ h3 1).trans x1
  have y2 := (unhide HBX _ _ h3 2).trans x2
  have y3 := (unhide HBX _ _ h3 3).trans x3
  have r3 := h3.cells.1
  go_wp2_with fail
  refine (unhide hwr _).mono ?_
  rintro e w4 ⟨la, lc, rfl, hb4, hl4⟩
  have h4 := h3.below hb4
  have hws := writesOf_len A B C
  generalize writesOf A B C = ws at *
  have HW := hide hws
  obtain ⟨L, KK, rfl, rfl, hp, hE4⟩ := h4
  have hO4 := Owns.of_row (ownsRow_mono hl4 (Nat.zero_le _))
  have hlw : ∀ a, la = some a → w3.heap.size ≤ a.block := by
    intro a ha
    have := hl4.lt a.block (by rw [ha]; rfl)
    exact this.1
  have hbgn := begin_any hp.rep hp.ok la ws.length lc ws rfl (by unfold maxLen; omega) hO4.cap_le.1 hO4.wrAt.2 (by
    intro ad had
    have := hlw ad had
    obtain ⟨L3, K3, _, e3, hp3', _⟩ := h3
    have := hp3'.rep.wlt
    omega)
  rw [unhide hBP] at hbgn
  have HBG := hide hbgn
  have r4 := hp.run.r0
  clear hbgn y0 y1 y2 y3
  go_wp2_with fail
  refine (unhide HBG).mono ?_
  rintro e w5 ⟨rfl, hl5⟩
  obtain ⟨L5, e5, hR5, hK5, hA5, hE5⟩ := hp.run.leaves hp.ap hl5
  have r50 := hK5.r0
  have r51 := hK5.r1
  have HD := hide (by have := hK5.tr.len; rw [slCells_length] at this; omega : KK.tv.n = s.deals.length)
  have hdn : KK.tv.n < 12 := by rw [unhide HD]; exact hd
  have hq12 : ((KK.tv.n : Int) == 12) = false := by rw [beq_eq_false_iff_ne]; omega
  have hbx5 := ((hE4.trans hE5).keep w1.heap.size (unhide HLT) (unhide HFR _ (Nat.le_refl _))).1
  have z0 := (World.cell?_of_block (a := ⟨w1.heap.size, 0, none⟩) hbx5).trans x0
  have z1 := (World.cell?_of_block (a := ⟨w1.heap.size, 1, none⟩) hbx5).trans x1
  have z2 := (World.cell?_of_block (a := ⟨w1.heap.size, 2, none⟩) hbx5).trans x2
  have z3 := (World.cell?_of_block (a := ⟨w1.heap.size, 3, none⟩) hbx5).trans x3
  have hrb5 := World.block_lt_of_cell? w5 _ r50
  have hds : (s.bgn ws).1.deals = s.deals ++ [ws] := (bgn_deals s ws).1
  have hpp : (s.bgn ws).1.parts = 3 := (bgn_deals s ws).2.trans hp.p3
  have hokb : Ok (s.bgn ws).1 := hp.ok.bgn ws (soundB_sound (unhide HSO)) hd
  have HS := hide (And.intro hds (And.intro hpp hokb))
  have hEE := hE4.trans hE5
  have HE5 := hide e5
  obtain ⟨i0, hi0, hz0, hz1, hz2⟩ := info_parts Tryz.infoSl
  clear hbx5 hds hpp hokb hl5 hE4 hE5 hl4 hO4 hlw HBG h3 r3 r4 hb4 x0 x1 x2 x3 HUP h1 r0 e5
  go_wp2_with fail
  go_cut [] from 71 to 81 (fun wc => Kt o' w2 KK.rb L.wb wc (s.bgn ws).1)
  case first =>
    go_region_law (first
      | (refine step_append_one rfl (.tmp 75) (.tmp 78) 38 rfl 52 i0 (.slice none 0 0) 1 24 Tryz.underlying38 hi0 hz0 hz1 hz2 rfl (by decide) KK.tv.a KK.tv.n KK.tv.cap (slCells KK.tl s.deals.length) rfl (by exact World.ownsRow.alloc hT6 _) ⟨w6.heap.size, 0, none⟩ 1 [.slice (some ⟨g, 0, none⟩) ws.length lc2] rfl rfl (by exact new_cells _ [.slice (some ⟨g, 0, none⟩) ws.length lc2] _) (fun x hx => by simp at hx; subst hx; rfl) (by unfold maxLen; omega) (by omega) ?_; intro k cap' w7 g1 g2 g3; obtain ⟨c7, f7, hK7⟩ := append_more hR5 hK5 hA5 (unhide HS).2.2 (unhide HS).2.1 (unhide HS).1 (unhide HD) hb6 hl6 g1 g2 g3; clear g1 g2 g3)
      | (go_simp; go_at_call 43; refine (unhide hwr _).mono ?_; rintro e w6 ⟨la2, lc2, rfl, hb6', hl6'⟩; have hb6 : Below w5.heap.size w5 w6 := (Below.refl _ _).drew.trans hb6'; have hl6 : w6.ownsRow w5.heap.size 74 3 (.slice la2 ws.length lc2) ws.length (wrCells ws) := hl6'; obtain ⟨g, hla2⟩ := row_some hl6 (unhide HW).2; subst hla2; have hT6 := (hK5.below hb6).tr; have c61 := (hK5.below hb6).r1; have hrb6 := World.block_lt_of_cell? w6 _ c61; clear hb6' hl6'))
    all_goals (try go_wp2_with fail)
    all_goals go_meet
    all_goals exact Kt.trans hEE (by rw [← unhide HE5]; exact hK7)
  case rest =>
    have hKt := hcut
    have r80 := hKt.cells
    obtain ⟨r80, a8, c8, r81⟩ := r80
    rw [(unhide HS).1, List.length_append] at r81
    simp only [List.length_cons, List.length_nil] at r81
    have qe : (((s.deals.length : Int) + 1) == (s.deals.length : Int) + 1) = true := by simp
    clear hR5 hK5 hA5 z0 z1 z2 z3 r50 r51 hrb5 hEE hz0 hz1 hz2 hi0 hq12 hdn
    go_wp2
    go_ret
    refine ⟨by simp, ?_⟩
    rw [unhide hP]
    exact unhide HHB _ _ hKt
end Go.Proofs.YtekbjlhbjcikdaaGreat
