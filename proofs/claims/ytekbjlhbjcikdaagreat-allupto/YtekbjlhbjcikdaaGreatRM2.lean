/-
  R8, R9, R10, R11, R12, one behind the other.
-/
import Derived.Test.YtekbjlhbjcikdaaGreatRM1
import Derived.Deep.RegionWith
import Derived.Deep.DeepCutAuto
import Derived.Deep.RegionHeld3
/-
  accordref: walks of record, send, place, clash; what follows from Ok.
-/
namespace Acc

theorem membersTo_over {ws : List Wr} {p : Nat} (h : ∀ x, x ∈ ws → x.part ≤ p) (k : Nat) : membersTo ws (p + k) = membersTo ws p := by
  induction k with
  | zero => rfl
  | succ k ih =>
    show membersTo ws (p + k) ++ (if hasPart ws (((p + k : Nat) : Int) + 1) then [p + k + 1] else []) = _
    rw [ih]
    have : hasPart ws (((p + k : Nat) : Int) + 1) = false := by
      cases hh : hasPart ws (((p + k : Nat) : Int) + 1) with
      | false => rfl
      | true =>
        obtain ⟨x, hx, e⟩ := hasPart_ex _ _ hh
        have := h x hx
        omega
    rw [this]; simp
theorem members_parts {s : St} (h : Inv s) (t : Nat) : membersTo (s.deal t) s.parts = members (s.deal t) := by
  have hp : ∀ x, x ∈ s.deal t → x.part ≤ s.parts := by
    intro x hx
    obtain ⟨ws, h1, h2⟩ := deal_in hx
    exact (h.dp ws h1 x h2).2
  have := membersTo_over hp (5 - s.parts)
  have h5 := h.p5
  rw [show s.parts + (5 - s.parts) = 5 from by omega] at this
  exact this.symm
theorem holder_holds (s : St) (p : Nat) (k : Int) (n t : Nat) (h : holdFrom s p k n t ≠ 0) : s.state p (holdFrom s p k n t) = 2 := by
  induction n generalizing t with
  | zero => exact absurd rfl h
  | succ n ih =>
    unfold holdFrom at h ⊢
    split
    · rename_i hh
      unfold St.holds at hh
      simp at hh
      exact hh.1
    · rename_i hh
      rw [if_neg hh] at h
      exact ih _ h

/-- What the document's world keeps to while it is played; B: how many votes there may be. -/
structure ROk (r : RSt) (B : Nat) : Prop where
  ok : Ok r.st
  fz : ∀ k, -1 ≤ (r.nd k).fuse ∧ (r.nd k).fuse < 9223372036854775808
  vl : ∀ k, ((r.nd k).votes).length ≤ B
end Acc
namespace Go.Proofs.YtekbjlhbjcikdaaGreat
open Go.RowKit Acc

theorem _root_.Acc.RSt.wf {r : RSt} (h : Inv r.st) : RWf r where
  p1 := h.p1
  p5 := h.p5
  d12 := h.d12
  w6 := fun t => by
    by_cases ht : t < r.trans.length
    · have : r.trans.getD t [] ∈ r.trans := by
        rw [List.getD_eq_getElem?_getD, List.getElem?_eq_getElem ht]; exact List.getElem_mem ht
      exact (h.dl _ this).2
    · rw [List.getD_eq_getElem?_getD, List.getElem?_eq_none (by omega)]; simp
  ll := fun n _ => by have : (r.st.log n).length ≤ 24 := h.len n; show (r.st.log n).length ≤ _; omega
  lt := fun n x _ hx => h.logs n x hx
theorem _root_.Acc.ROk.wf {r : RSt} {B : Nat} (h : ROk r B) : RWf r := RSt.wf h.ok.inv

set_option maxRecDepth 100000 in
set_option maxHeartbeats 1000000 in
theorem refRecord_any (t st : Nat) (w : World) :
    Calls Tryz.prog 172 #[.int .i64 t, .int .i64 st] w fun e w' => e = .returned (.agg #[.bool false, .int .i64 t, .int .i64 st, .int .i64 0, .int .i64 0, .int .i64 0, .int .i64 0]) ∧ Below w.heap.size w w' := by
  go_enter Tryz.func172, Tryz.ntmps172
  go_wp2
  exact bodyPost_ret (v := .agg #[.bool false, .int .i64 t, .int .i64 st, .int .i64 0, .int .i64 0, .int .i64 0, .int .i64 0]) (by simp [results, Tryz.results172, go_sem]) rfl ⟨rfl, below_alloc _ _⟩

set_option maxRecDepth 100000 in
set_option maxHeartbeats 1000000 in
theorem refSend_any (k f o t : Nat) (w : World) :
    Calls Tryz.prog 149 #[.int .i64 k, .int .i64 f, .int .i64 o, .int .i64 t] w fun e w' => e = .returned (.agg #[.bool true, .int .i64 0, .int .i64 0, .int .i64 k, .int .i64 f, .int .i64 o, .int .i64 t]) ∧ Below w.heap.size w w' := by
  go_enter Tryz.func149, Tryz.ntmps149
  go_wp2
  exact bodyPost_ret (v := .agg #[.bool true, .int .i64 0, .int .i64 0, .int .i64 k, .int .i64 f, .int .i64 o, .int .i64 t]) (by simp [results, Tryz.results149, go_sem]) rfl ⟨rfl, below_alloc _ _⟩

set_option maxRecDepth 100000 in
set_option maxHeartbeats 1000000 in
theorem refPlace_any {w : World} {Y : RLay} {r : RSt} (h : RRep w Y r) (_hp5 : r.parts ≤ 5) (p k : Int) :
    Calls Tryz.prog 152 #[.pointer (some ⟨Y.yb, 0, none⟩), .int .i64 p, .int .i64 k] w fun e w' => e = .returned (.bool (decide (r.st.keyOk p k))) ∧ w' = w := by
  have y0 := h.y0
  have hk : r.st.keyOk p k ↔ (1 ≤ p ∧ p ≤ r.parts) ∧ 0 ≤ k ∧ k < 4 := Iff.rfl
  have HK := hide hk
  clear hk
  by_cases h1 : 1 ≤ p
  · by_cases h2 : p < (r.parts : Int) + 1
    · by_cases h3 : 0 ≤ k
      · go_enter Tryz.func152, Tryz.ntmps152
        go_wp2
        go_ret
        refine ⟨?_, rfl⟩
        show Ending.returned (.bool (decide (k < 4))) = _
        rw [decide_eq_decide.2 (show k < 4 ↔ r.st.keyOk p k from by rw [unhide HK]; omega)]
      · go_enter Tryz.func152, Tryz.ntmps152
        go_wp2
        go_ret
        refine ⟨?_, rfl⟩
        show Ending.returned (.bool false) = _
        rw [decide_eq_false (show ¬ r.st.keyOk p k from by rw [unhide HK]; omega)]
    · go_enter Tryz.func152, Tryz.ntmps152
      go_wp2
      go_ret
      refine ⟨?_, rfl⟩
      show Ending.returned (.bool false) = _
      rw [decide_eq_false (show ¬ r.st.keyOk p k from by rw [unhide HK]; omega)]
  · go_enter Tryz.func152, Tryz.ntmps152
    go_wp2
    go_ret
    refine ⟨?_, rfl⟩
    show Ending.returned (.bool false) = _
    rw [decide_eq_false (show ¬ r.st.keyOk p k from by rw [unhide HK]; omega)]

set_option maxRecDepth 100000 in
set_option maxHeartbeats 1000000 in
theorem refClash_any {w : World} {Y : RLay} {r : RSt} (h : RRep w Y r) (hf : RWf r) (p t : Nat) (hp : p ≤ r.parts) (h1 : 1 ≤ t) (h2 : t ≤ r.trans.length) (h0 : r.st.state p t = 0) :
    Calls Tryz.prog 177 #[.pointer (some ⟨Y.yb, 0, none⟩), .int .i64 p, .int .i64 t] w fun e w' => e = .returned (.bool (r.st.clashes p t)) ∧ w' = w := by
  have HH : Hid (r.st.clashes p t = clashTo r.st p t 4) := rfl
  have HWA := hide (fun k => refWrites_any h hf t p k h1 h2)
  have HHA := hide (fun k => refHolder_any h hf p k hp)
  have H0 := hide h0
  clear h0
  go_enter Tryz.func177, Tryz.ntmps177
  go_wp2
  go_loop [7] (fun i => ∃ j : Nat, j ≤ 4 ∧ i = .int .i64 (j : Int) ∧ Hid (clashTo r.st p t j = false)) (fun i => 4 - (intOf i).toNat)
  case atStart => exact ⟨0, Nat.zero_le _, rfl, rfl⟩
  case round =>
    obtain ⟨j, hj, rfl, hv⟩ := hrel
    by_cases hlt : j < 4
    · have HS : Hid (clashTo r.st p t (j + 1) = (clashTo r.st p t j || ((findW (r.st.deal t) p j).isSome && decide (r.st.holder p j ≠ 0)))) := rfl
      go_wp2_with fail
      refine (unhide HWA (j : Int)).mono ?_
      rintro e w1 ⟨rfl, rfl⟩
      go_wp2_with fail
      refine (unhide HHA (j : Int)).mono ?_
      rintro e w2 ⟨rfl, rfl⟩
      cases hfw : findW (r.st.deal t) p j with
      | none =>
        have HF := hide hfw
        clear hfw
        go_wp2
        refine ⟨⟨j + 1, by omega, by go_num, ?_⟩, by simp [intOf]; omega⟩
        show _ = _
        rw [unhide HS, unhide hv, unhide HF]; rfl
      | some v =>
        have HF := hide hfw
        clear hfw
        by_cases hz : r.st.holder p j = 0
        · have hb : ((r.st.holder p j : Int) == 0) = true := by rw [hz]; rfl
          have H2 := hide hz
          clear hz
          go_wp2
          refine ⟨⟨j + 1, by omega, by go_num, ?_⟩, by simp [intOf]; omega⟩
          show _ = _
          rw [unhide HS, unhide hv, unhide H2]; simp
        · have hne : r.st.holder p j ≠ t := by
            intro e
            have := holder_holds r.st p j r.st.deals.length 1 hz
            rw [show holdFrom r.st p j r.st.deals.length 1 = r.st.holder p j from rfl, e, unhide H0] at this
            omega
          have hb : ((r.st.holder p j : Int) != 0) = true := by simp; omega
          have hb2 : ((r.st.holder p j : Int) != (t : Int)) = true := by simp; omega
          have H2 := hide hz
          clear hz hne
          go_wp2
          go_ret
          refine ⟨?_, rfl⟩
          rw [unhide HH]
          have h4 : ∀ k, j + 1 ≤ k → clashTo r.st p t k = true := by
            intro k hk
            induction k with
            | zero => omega
            | succ k ih =>
              by_cases hkj : k = j
              · subst hkj; rw [unhide HS, unhide HF]; simp; exact .inr (unhide H2)
              · unfold clashTo; rw [ih (by omega)]; rfl
          rw [h4 4 (by omega)]
          rfl
    · have hj4 : j = 4 := by omega
      subst hj4
      go_wp2
      go_ret
      refine ⟨?_, rfl⟩
      rw [unhide HH, unhide hv]
      rfl
end Go.Proofs.YtekbjlhbjcikdaaGreat
/-
  accordref: walks of asked, doubted, all.
-/
namespace Go.Proofs.YtekbjlhbjcikdaaGreat
open Go.RowKit Acc

theorem heap_alloc_last (w : World) (o : Obj) (k : Nat) (hk : k = w.heap.size) : (w.alloc o).heap[k]? = some o := by subst hk; exact heap_alloc_new w o
theorem ownsRow_new (w : World) (base e size n : Nat) (cs : Array Value) (xs : List Value) (hb : base ≤ w.heap.size) (hx : cs.toList = xs) (hl : xs.length = n * size) (hm : n ≤ maxLen) :
    (w.alloc (.cells cs e)).ownsRow base e size (.slice (some ⟨w.heap.size, 0, none⟩) n n) n xs := by
  subst hx
  refine ⟨hl, .inr ⟨w.heap.size, n, cs, rfl, hb, heap_alloc_last _ _ _ rfl, Nat.le_refl _, hm, ?_, ?_⟩⟩
  · simpa using hl
  · rw [List.take_of_length_le (by omega)]

/-- What a function leaves that only makes a list of acts. -/
def ActsOut (w : World) (l : List Deed) (e : Ending) (w' : World) : Prop := ∃ a cap, e = .returned (.slice a l.length cap) ∧ Below w.heap.size w w' ∧ w'.ownsRow w.heap.size 173 7 (.slice a l.length cap) l.length (actCells l)
theorem ActsOut.nil {w w' : World} (hb : Below w.heap.size w w') : ActsOut w [] (.returned (.slice none 0 0)) w' := ⟨none, 0, rfl, hb, World.ownsRow_nil _ _ _ _⟩
theorem ActsOut.new {w w1 : World} {l : List Deed} {cs : Array Value} {n : Nat} {e : Ending} (hb : Below w.heap.size w w1) (hc : cs.toList = actCells l) (hn : n = l.length) (h9 : n ≤ 9) (he : e = .returned (.slice (some ⟨w1.heap.size, 0, none⟩) n n)) :
    ActsOut w l e (w1.alloc (.cells cs 173)) := by
  subst hn
  exact ⟨_, _, he, hb.more (below_alloc _ _), ownsRow_new w1 _ _ _ _ _ _ hb.size hc (actCells_length l) (by unfold maxLen; omega)⟩

set_option maxRecDepth 100000 in
set_option maxHeartbeats 1000000 in
theorem refAsked_any {w : World} {Y : RLay} {r : RSt} (h : RRep w Y r) (hf : RWf r) (p t : Nat) (hp : p ≤ r.parts) (h1 : 1 ≤ t) (h2 : t ≤ r.trans.length) :
    Calls Tryz.prog 173 #[.pointer (some ⟨Y.yb, 0, none⟩), .int .i64 p, .int .i64 t] w (ActsOut w (r.st.asked ⟨1, 0, p, t⟩)) := by
  have HST := hide (refState_any h hf p t hp)
  have HA : Hid (r.st.asked ⟨1, 0, p, t⟩ = if r.st.state p t = 0 then (if r.st.clashes p t then [.wrt t 4, .snd ⟨3, p, 0, t⟩] else [.wrt t 2, .snd ⟨2, p, 0, t⟩]) else if r.st.state p t = 2 then [.snd ⟨2, p, 0, t⟩] else if r.st.state p t = 4 then [.snd ⟨3, p, 0, t⟩] else []) := rfl
  go_enter Tryz.func173, Tryz.ntmps173
  go_wp2_with fail
  refine (unhide HST).mono ?_
  rintro e w1 ⟨rfl, rfl⟩
  by_cases h0 : r.st.state p t = 0
  · have HCL := hide (refClash_any h hf p t hp h1 h2 h0)
    rw [h0]
    have H0 := hide h0
    clear h0
    go_wp2_with fail
    refine (unhide HCL).mono ?_
    rintro e w1 ⟨rfl, rfl⟩
    cases hc : r.st.clashes p t with
    | true =>
      have hA := unhide HA
      rw [if_pos (unhide H0), if_pos hc] at hA
      have HA2 := hide hA
      clear HA hA hc
      go_wp2_with fail
      refine (refRecord_any t 4 _).mono ?_
      rintro e w2 ⟨rfl, hb2⟩
      go_wp2_with fail
      refine (refSend_any 3 p 0 t _).mono ?_
      rintro e w3 ⟨rfl, hb3⟩
      go_wp2
      go_ret
      rw [unhide HA2]
      exact ActsOut.new (hb2.more hb3) rfl rfl (by simp) rfl
    | false =>
      have hA := unhide HA
      rw [if_pos (unhide H0), if_neg (by simp [hc])] at hA
      have HA2 := hide hA
      clear HA hA hc
      go_wp2_with fail
      refine (refRecord_any t 2 _).mono ?_
      rintro e w2 ⟨rfl, hb2⟩
      go_wp2_with fail
      refine (refSend_any 2 p 0 t _).mono ?_
      rintro e w3 ⟨rfl, hb3⟩
      go_wp2
      go_ret
      rw [unhide HA2]
      exact ActsOut.new (hb2.more hb3) rfl rfl (by simp) rfl
  · by_cases hs2 : r.st.state p t = 2
    · have hA := unhide HA
      rw [if_neg h0, if_pos hs2] at hA
      have HA2 := hide hA
      rw [hs2]
      clear HA hA h0 hs2
      go_wp2_with fail
      refine (refSend_any 2 p 0 t _).mono ?_
      rintro e w3 ⟨rfl, hb3⟩
      go_wp2
      go_ret
      rw [unhide HA2]
      exact ActsOut.new hb3 rfl rfl (by simp) rfl
    · by_cases hs4 : r.st.state p t = 4
      · have hA := unhide HA
        rw [if_neg h0, if_neg hs2, if_pos hs4] at hA
        have HA2 := hide hA
        rw [hs4]
        clear HA hA h0 hs2 hs4
        go_wp2_with fail
        refine (refSend_any 3 p 0 t _).mono ?_
        rintro e w3 ⟨rfl, hb3⟩
        go_wp2
        go_ret
        rw [unhide HA2]
        exact ActsOut.new hb3 rfl rfl (by simp) rfl
      · have hA := unhide HA
        rw [if_neg h0, if_neg hs2, if_neg hs4] at hA
        have HA2 := hide hA
        have q0 : ((r.st.state p t : Int) == 0) = false := by rw [beq_eq_false_iff_ne]; omega
        have q2 : ((r.st.state p t : Int) == 2) = false := by rw [beq_eq_false_iff_ne]; omega
        have q4 : ((r.st.state p t : Int) == 4) = false := by rw [beq_eq_false_iff_ne]; omega
        clear HA hA h0 hs2 hs4
        go_wp2
        go_ret
        rw [unhide HA2]
        exact ActsOut.nil (Below.refl _ _)

set_option maxRecDepth 100000 in
set_option maxHeartbeats 1000000 in
theorem refDoubted_any {w : World} {Y : RLay} {r : RSt} (h : RRep w Y r) (hf : RWf r) (m : Msg) (hp : m.to ≤ r.parts) :
    Calls Tryz.prog 175 #[.pointer (some ⟨Y.yb, 0, none⟩), .int .i64 m.to, .int .i64 m.frm, .int .i64 m.trans] w (ActsOut w (r.st.doubted m)) := by
  have HST := hide (refState_any h hf m.to m.trans hp)
  have HA : Hid (r.st.doubted m = if r.st.state m.to m.trans = 3 then [.snd ⟨4, m.to, m.frm, m.trans⟩]
    else if r.st.state m.to m.trans = 4 then [.snd ⟨5, m.to, m.frm, m.trans⟩]
    else if r.st.state m.to m.trans = 0 ∧ m.to ≠ 0 then [.wrt m.trans 4, .snd ⟨5, m.to, m.frm, m.trans⟩]
    else []) := rfl
  go_enter Tryz.func175, Tryz.ntmps175
  go_wp2_with fail
  refine (unhide HST).mono ?_
  rintro e w1 ⟨rfl, rfl⟩
  by_cases h3 : r.st.state m.to m.trans = 3
  · have hA := unhide HA
    rw [if_pos h3] at hA
    have HA2 := hide hA
    rw [h3]
    clear HA hA h3
    go_wp2_with fail
    refine (refSend_any 4 m.to m.frm m.trans _).mono ?_
    rintro e w3 ⟨rfl, hb3⟩
    go_wp2
    go_ret
    rw [unhide HA2]
    exact ActsOut.new hb3 rfl rfl (by simp) rfl
  · by_cases h4 : r.st.state m.to m.trans = 4
    · have hA := unhide HA
      rw [if_neg h3, if_pos h4] at hA
      have HA2 := hide hA
      rw [h4]
      clear HA hA h3 h4
      go_wp2_with fail
      refine (refSend_any 5 m.to m.frm m.trans _).mono ?_
      rintro e w3 ⟨rfl, hb3⟩
      go_wp2
      go_ret
      rw [unhide HA2]
      exact ActsOut.new hb3 rfl rfl (by simp) rfl
    · by_cases h0 : r.st.state m.to m.trans = 0
      · by_cases hz : m.to = 0
        · have hA := unhide HA
          rw [if_neg h3, if_neg h4, if_neg (fun hh => hh.2 hz)] at hA
          have HA2 := hide hA
          have hq : ¬ (0 : Int) < (m.to : Int) := by omega
          rw [h0]
          clear HA hA h3 h4 h0 hz
          go_wp2
          go_ret
          rw [unhide HA2]
          exact ActsOut.nil (Below.refl _ _)
        · have hA := unhide HA
          rw [if_neg h3, if_neg h4, if_pos ⟨h0, hz⟩] at hA
          have HA2 := hide hA
          have hq : (0 : Int) < (m.to : Int) := by omega
          rw [h0]
          clear HA hA h3 h4 h0 hz
          go_wp2_with fail
          refine (refRecord_any m.trans 4 _).mono ?_
          rintro e w2 ⟨rfl, hb2⟩
          go_wp2_with fail
          refine (refSend_any 5 m.to m.frm m.trans _).mono ?_
          rintro e w3 ⟨rfl, hb3⟩
          go_wp2
          go_ret
          rw [unhide HA2]
          exact ActsOut.new (hb2.more hb3) rfl rfl (by simp) rfl
      · have hA := unhide HA
        rw [if_neg h3, if_neg h4, if_neg (fun hh => h0 hh.1)] at hA
        have HA2 := hide hA
        have q0 : ((r.st.state m.to m.trans : Int) == 0) = false := by rw [beq_eq_false_iff_ne]; omega
        have q3 : ((r.st.state m.to m.trans : Int) == 3) = false := by rw [beq_eq_false_iff_ne]; omega
        have q4 : ((r.st.state m.to m.trans : Int) == 4) = false := by rw [beq_eq_false_iff_ne]; omega
        clear HA hA h0 h3 h4
        go_wp2
        go_ret
        rw [unhide HA2]
        exact ActsOut.nil (Below.refl _ _)
end Go.Proofs.YtekbjlhbjcikdaaGreat
/-
  accordref: walk of all.
-/
namespace Acc
theorem St.all_take (s : St) (t st kind : Nat) (j x : Nat) (h : (members (s.deal t))[j]? = some x) :
    (.wrt t st :: ((members (s.deal t)).take (j + 1)).map fun m => Deed.snd ⟨kind, 0, m, t⟩) = (.wrt t st :: ((members (s.deal t)).take j).map fun m => Deed.snd ⟨kind, 0, m, t⟩) ++ [.snd ⟨kind, 0, x, t⟩] := by
  rw [List.take_add_one, h]; simp
end Acc
namespace Go.Proofs.YtekbjlhbjcikdaaGreat
open Go.RowKit Acc

theorem Tryz.infoAct : (Tryz.prog.info? 173).map (fun i => (i.zero, i.size, i.bytes)) = some (some (.agg #[.bool false, .int .i64 0, .int .i64 0, .int .i64 0, .int .i64 0, .int .i64 0, .int .i64 0]), 7, 56) := by kernel_rfl
theorem natCells_get (l : List Nat) (j x : Nat) (h : l[j]? = some x) : (natCells l)[j]? = some (.int .i64 (x : Int)) := by simp [natCells, h]
theorem ownsRow_rebase' {w : World} {e size : Nat} {s : Sl} {xs : List Value} {base : Nat} (h : Owns w e size s xs) (hb : ∀ a, s.a = some a → base ≤ a.block) : w.ownsRow base e size (.slice s.a s.n s.cap) s.n xs := by
  refine ⟨h.1, ?_⟩
  rcases h.2 with h' | ⟨g, cap, cur, hv, h0, r⟩
  · exact .inl h'
  · injection hv with e1 e2 e3
    exact .inr ⟨g, cap, cur, by rw [e1, e3], hb _ e1, r⟩
theorem members_len5 (ws : List Wr) : (members ws).length ≤ 5 := membersTo_len ws 5

set_option maxRecDepth 100000 in
set_option maxHeartbeats 2000000 in
theorem refAll_any {w : World} {Y : RLay} {r : RSt} (h : RRep w Y r) (hf : RWf r) (hi : Inv r.st) (t st kind : Nat) (h1 : 1 ≤ t) (h2 : t ≤ r.trans.length) :
    Calls Tryz.prog 142 #[.pointer (some ⟨Y.yb, 0, none⟩), .int .i64 t, .int .i64 st, .int .i64 kind] w (ActsOut w (r.st.all t st kind)) := by
  obtain ⟨i0, hii, hz0, hz1, hz2⟩ := info_parts Tryz.infoAct
  have HM := hide (members_parts hi t)
  have HAL : Hid (r.st.all t st kind = .wrt t st :: (members (r.st.deal t)).map fun m => .snd ⟨kind, 0, m, t⟩) := rfl
  have hpp : Hid (r.st.parts = r.parts) := rfl
  clear hi
  go_enter Tryz.func142, Tryz.ntmps142
  go_wp2_with fail
  refine (refRecord_any t st _).mono ?_
  rintro e w2 ⟨rfl, hb2⟩
  have hbA := hb2.more (below_alloc w2 (Obj.cells #[.bool false, .int .i64 t, .int .i64 st, .int .i64 0, .int .i64 0, .int .i64 0, .int .i64 0] 173))
  have hoA : (w2.alloc (Obj.cells #[.bool false, .int .i64 t, .int .i64 st, .int .i64 0, .int .i64 0, .int .i64 0, .int .i64 0] 173)).ownsRow w.heap.size 173 7 (.slice (some ⟨w2.heap.size, 0, none⟩) 1 1) 1 (actCells [.wrt t st]) := ownsRow_new w2 _ _ _ _ _ _ hb2.size rfl rfl (by unfold maxLen; omega)
  have HMA := hide (refMembers_any (h.below hbA) hf t h1 h2)
  go_wp2_with fail
  generalize w2.alloc (Obj.cells #[.bool false, .int .i64 t, .int .i64 st, .int .i64 0, .int .i64 0, .int .i64 0, .int .i64 0] 173) = wa at *
  refine (unhide HMA).mono ?_
  rintro e w3 ⟨sa, sc, rfl, hb3, ho3⟩
  have hm := unhide HM
  rw [unhide hpp] at hm
  rw [hm] at ho3 ⊢
  have hl5 := members_len5 (r.st.deal t)
  have ho0 := ownsRow_mono (ownsRow_below hoA hb3) (Nat.zero_le _)
  have hb03 := hbA.more hb3
  have HG := hide (St.all_take r.st t st kind)
  have hsa : ∀ x, sa = some x → x.block ≠ w2.heap.size := by
    intro x hx
    have := ho3.lt x.block (by rw [hx]; rfl)
    have := (hoA.lt w2.heap.size rfl).2
    omega
  have hw2 := hb2.size
  have hos : Owns w3 3 1 ⟨sa, (members (r.st.deal t)).length, sc⟩ (natCells (members (r.st.deal t))) := ownsRow_mono ho3 (Nat.zero_le _)
  generalize members (r.st.deal t) = ms at *
  clear HMA HM hpp hm hoA hbA hb2 ho3
  go_wp2_with fail
  go_loopw [9, 11] (fun o i wr => ∃ (j k oc : Nat), j ≤ ms.length ∧ i = .int .i64 (j : Int) ∧ o = .slice (some ⟨k, 0, none⟩) (j + 1) oc ∧ Below w.heap.size w wr ∧ Owns wr 3 1 ⟨sa, ms.length, sc⟩ (natCells ms) ∧
      (∀ x, sa = some x → x.block ≠ k) ∧ w.heap.size ≤ k ∧
      wr.ownsRow 0 173 7 (.slice (some ⟨k, 0, none⟩) (j + 1) oc) (j + 1) (actCells (.wrt t st :: (ms.take j).map fun m => .snd ⟨kind, 0, m, t⟩))) (fun _ i _ => ms.length - (intOf i).toNat)
  case atStart => exact ⟨0, _, _, Nat.zero_le _, rfl, rfl, hb03, hos, hsa, hw2, by simpa using ho0⟩
  case round =>
    obtain ⟨j, k, oc, hj, rfl, rfl, hb, hom, hne, hwk, hoo⟩ := hrel
    by_cases hlt : j < ms.length
    · have hx : ms[j]? = some ms[j] := List.getElem?_eq_getElem _
      generalize ms[j] = x at hx
      have HGX := hide (unhide HG j x hx)
      obtain ⟨g, hg, hgc, _, hcell⟩ := hom.at (by simp; omega)
      simp only at hg hgc
      subst hg
      have z := hcell j _ (natCells_get ms j x hx)
      have hgk := hne _ rfl
      have hgl := hom.lt _ rfl
      simp only at hgk hgl
      have HOM := hide hom
      clear hcell hx hom HG ho0 hos
      go_wp2_with fail
      refine (refSend_any kind 0 x t _).mono ?_
      rintro e w4 ⟨rfl, hb4⟩
      have hoo4 := ownsRow_below hoo hb4
      have hs4 := hb4.size
      generalize hacs : actCells (.wrt t st :: (ms.take j).map fun m => .snd ⟨kind, 0, m, t⟩) = acs at *
      clear hoo
      go_wp2_with (at_builtin; refine wpList_append_one rfl _ _ 167 rfl 173 i0 (.agg #[.bool false, .int .i64 0, .int .i64 0, .int .i64 0, .int .i64 0, .int .i64 0, .int .i64 0]) 7 56 Tryz.underlying167 hii hz0 hz1 hz2 rfl (by decide) (some ⟨k, 0, none⟩) (j + 1) oc acs rfl (World.ownsRow.alloc hoo4 _) ⟨w4.heap.size, 0, none⟩ 1 [.bool true, .int .i64 0, .int .i64 0, .int .i64 kind, .int .i64 ((0 : Nat) : Int), .int .i64 x, .int .i64 t] rfl rfl (new_cells _ _ _) (fun x hx => by simp at hx; rcases hx with rfl | rfl | rfl | rfl | rfl | rfl <;> rfl) (by unfold maxLen; omega) (by omega) ?_; intro k' cap' w5 g1 g2 g3)
      have hs5 := g2.size
      have hom5 : Owns w5 3 1 ⟨some ⟨g, 0, none⟩, ms.length, sc⟩ (natCells ms) := (unhide HOM).frame fun a ha => by
        simp only [Option.some.injEq] at ha; subst ha
        rw [g2.block g (by simp; omega) (by simp [Value.ownBlock]; omega), Below.heap_alloc _ _ _ (by omega)]
        exact hb4.block g hgl
      have hbel : Below w.heap.size w w5 := ((hb.more hb4).more (below_alloc _ _)).grown g2 (by simp; have := hb.size; omega) (by intro b hb; simp only [Value.ownBlock, Option.some.injEq] at hb; omega)
      have hkk : g ≠ k' ∧ w.heap.size ≤ k' := by
        rcases g3 with g3 | g3
        · injection g3 with g3; injection g3 with g3; subst g3; exact ⟨hgk, hwk⟩
        · simp at g3; have := hb.size; omega
      refine ⟨⟨j + 1, k', cap', by omega, by go_num, rfl, hbel, hom5, ?_, hkk.2, ?_⟩, by simp [intOf]; omega⟩
      · intro x hx; simp only [Option.some.injEq] at hx; subst hx; exact hkk.1
      · rw [unhide HGX, actCells_append, hacs]; exact g1
    · have hjm : j = ms.length := by omega
      subst hjm
      go_wp2
      go_ret
      rw [unhide HAL]
      rw [List.take_length] at hoo
      refine ⟨some ⟨k, 0, none⟩, oc, ?_, hb, ?_⟩
      · rw [List.length_cons, List.length_map]; rfl
      · have := ownsRow_rebase' (base := w.heap.size) (s := ⟨some ⟨k, 0, none⟩, ms.length + 1, oc⟩) hoo (by intro a ha; simp only [Option.some.injEq] at ha; subst ha; exact hwk)
        simpa using this
end Go.Proofs.YtekbjlhbjcikdaaGreat
/-
  accordref: walk of votes.
-/
namespace Acc
def RSt.noteR (r : RSt) (t p : Nat) : RSt := r.setNode 0 { r.nd 0 with votes := (r.nd 0).votes ++ [(t, p)] }
theorem RSt.setNode_same {α : Type} (r : RSt) (i : Nat) (x : RNode) (f : RNode → α) (h : f x = f (r.nd i)) (n : Nat) : f ((r.setNode i x).nd n) = f (r.nd n) := by
  unfold RSt.setNode; simp only; split
  · rename_i e; rw [e]; exact h
  · rfl
theorem RSt.noteR_st (r : RSt) (t p : Nat) : (r.noteR t p).st = r.st.note t p := by
  have h1 : (fun n => ((r.noteR t p).nd n).log) = fun n => (r.nd n).log := by funext n; exact RSt.setNode_same r 0 { r.nd 0 with votes := (r.nd 0).votes ++ [(t, p)] } (·.log) rfl n
  have h2 : (fun n => ((r.noteR t p).nd n).up) = fun n => (r.nd n).up := by funext n; exact RSt.setNode_same r 0 { r.nd 0 with votes := (r.nd 0).votes ++ [(t, p)] } (·.up) rfl n
  have h3 : (fun n => if ((r.noteR t p).nd n).fuse < 0 then none else some ((r.noteR t p).nd n).fuse.toNat) = fun n => if (r.nd n).fuse < 0 then none else some (r.nd n).fuse.toNat := by
    funext n; exact RSt.setNode_same r 0 { r.nd 0 with votes := (r.nd 0).votes ++ [(t, p)] } (fun x => if x.fuse < 0 then none else some x.fuse.toNat) rfl n
  have h4 : (fun a b => ((r.noteR t p).nd 0).votes.any (fun v => v.1 == a && v.2 == b)) = (r.st.note t p).noted := by
    funext a b
    have : ((r.noteR t p).nd 0).votes = (r.nd 0).votes ++ [(t, p)] := rfl
    rw [this, List.any_append]
    simp only [St.note, RSt.st, List.any_cons, List.any_nil, Bool.or_false]
    by_cases hh : a = t ∧ b = p
    · rw [if_pos hh, hh.1, hh.2]; simp
    · rw [if_neg hh]
      have : (t == a && p == b) = false := by
        rw [Bool.and_eq_false_iff]
        by_cases ha : a = t
        · right; rw [beq_eq_false_iff_ne]; intro e; exact hh ⟨ha, e.symm⟩
        · left; rw [beq_eq_false_iff_ne]; intro e; exact ha e.symm
      rw [this, Bool.or_false]
  unfold RSt.st
  simp only [h1, h2, h3, h4]
  rfl
theorem allNotedOf_all (s : St) (t : Nat) (l : List Nat) (h : ∀ m, m ∈ l → s.noted t m = true) : allNotedOf s t l = true := (allNotedOf_iff s t l).2 h
theorem any_take {α : Type} (l : List α) (f : α → Bool) (i : Nat) (x : α) (h : l[i]? = some x) : (l.take (i + 1)).any f = ((l.take i).any f || f x) := by
  rw [List.take_add_one, h, List.any_append]; simp
end Acc
namespace Go.Proofs.YtekbjlhbjcikdaaGreat
open Go.RowKit Acc

theorem nat_beq (a b : Nat) : ((a : Int) == (b : Int)) = (a == b) := by
  by_cases h : a = b
  · subst h; simp
  · rw [beq_eq_false_iff_ne.2 h, beq_eq_false_iff_ne]; omega
/-- What a function leaves that makes a list of acts, and may note a vote. -/
def ActsW (Y : RLay) (w : World) (r' : RSt) (l : List Deed) (e : Ending) (w' : World) : Prop :=
  ∃ Y' a cap, e = .returned (.slice a l.length cap) ∧ (Y'.yb = Y.yb ∧ Y'.ab = Y.ab) ∧ RRep w' Y' r' ∧ Ext Y.own w Y'.own w' ∧ Owns w' 173 7 ⟨a, l.length, cap⟩ (actCells l) ∧ ∀ x, a = some x → Y'.own x.block = none
theorem ActsOut.toW {Y Y1 : RLay} {w w1 : World} {r : RSt} {l : List Deed} {e : Ending} {w' : World} (hy : Y1.yb = Y.yb ∧ Y1.ab = Y.ab) (hE : Ext Y.own w Y1.own w1) (hR : RRep w1 Y1 r) (h : ActsOut w1 l e w') : ActsW Y w r l e w' := by
  obtain ⟨a, cap, he, hb, ho⟩ := h
  refine ⟨Y1, a, cap, he, hy, hR.below hb, hE.trans (Ext.of_below hb), ownsRow_mono ho (Nat.zero_le _), ?_⟩
  intro x hx
  exact hR.free (ho.lt x.block (by rw [hx]; rfl)).1

set_option maxRecDepth 100000 in
set_option maxHeartbeats 1000000 in
theorem refVotes_no {w : World} {Y : RLay} {r : RSt} (h : RRep w Y r) (hf : RWf r) (p t : Nat) (hs : r.st.state 0 t ≠ 1) :
    Calls Tryz.prog 174 #[.pointer (some ⟨Y.yb, 0, none⟩), .int .i64 p, .int .i64 t] w (ActsW Y w r []) := by
  have HST := hide (refState_any h hf 0 t (Nat.zero_le _))
  go_enter Tryz.func174, Tryz.ntmps174
  go_wp2_with fail
  refine (unhide HST).mono ?_
  rintro e w1 ⟨rfl, rfl⟩
  have hq : ((r.st.state 0 t : Int) != 1) = true := by simp; omega
  clear hs
  go_wp2
  go_ret
  exact ActsOut.toW ⟨rfl, rfl⟩ (Ext.refl _ _) h (ActsOut.nil (Below.refl _ _))

set_option maxRecDepth 100000 in
set_option maxHeartbeats 4000000 in
theorem refVotes_yes {w : World} {Y : RLay} {r : RSt} {B : Nat} (h : RRep w Y r) (hk : ROk r B) (hB : B ≤ 9000000) (p t : Nat) (h1 : 1 ≤ t) (h2 : t ≤ r.trans.length) (hi : Inv (r.st.note t p)) (hs : r.st.state 0 t = 1) (l : List Deed)
    (hl : Hid (l = if (r.noteR t p).st.allNoted t = true then (r.noteR t p).st.all t 3 4 else [])) :
    Calls Tryz.prog 174 #[.pointer (some ⟨Y.yb, 0, none⟩), .int .i64 p, .int .i64 t] w (ActsW Y w (r.noteR t p) l) := by
  obtain ⟨i0, hii, hz0, hz1, hz2⟩ := info_parts Tryz.infoRec
  have hf := hk.wf
  have HST := hide (refState_any h hf 0 t (Nat.zero_le _))
  go_enter Tryz.func174, Tryz.ntmps174
  go_wp2_with fail
  refine (unhide HST).mono ?_
  rintro e w1 ⟨rfl, rfl⟩
  rw [hs]
  have y0 := h.y0
  have hac := h.ac
  have n3 := h.n3 0 (Nat.zero_le _)
  have hp5 := hf.p5
  have hov := h.ov 0 (Nat.zero_le _)
  have hvl := hk.vl 0
  have HL := hide (by have := hov.len; rw [recCells_length] at this; omega : (Y.vv 0).n = ((r.nd 0).votes).length)
  have hn6 : (Y.vv 0).n ≤ 9000000 := by rw [unhide HL]; omega
  have hyl := World.block_lt_of_cell? w1 _ y0
  have hab := World.block_lt_of_cell? w1 _ n3
  have HS := hide hs
  clear hvl hs
  go_wp2_with fail
  go_cut [] (fun wc => ∃ Y1, (Y1.yb = Y.yb ∧ Y1.ab = Y.ab) ∧ RRep wc Y1 (r.noteR t p) ∧ Ext Y.own w1 Y1.own wc)
  case first =>
    have hnp : (0 : Int) < (r.parts : Int) + 1 := by omega
    go_region_law (refine step_append_one rfl (.tmp 28) (.tmp 32) 33 rfl 43 i0 (.agg #[.int .i64 0, .int .i64 0]) 2 16 Tryz.underlying33 hii hz0 hz1 hz2 rfl (by decide) (Y.vv 0).a (Y.vv 0).n (Y.vv 0).cap (recCells (r.nd 0).votes) rfl (by exact World.ownsRow.alloc hov _) ⟨w1.heap.size, 0, none⟩ 1 [.int .i64 t, .int .i64 p] rfl rfl (by exact new_cells_at _ [.int .i64 t, .int .i64 p] _ _ rfl) (fun x hx => by simp at hx; rcases hx with rfl | rfl <;> rfl) (by unfold maxLen; omega) (by omega) ?_; intro k cap' w3 g1 g2 g3; have hu := Upd.of_append' h.lt (h.tv 0 (Nat.zero_le _)) ((below_alloc _ _).drew) g1 g2 g3; have y03 := (World.cell?_of_block (a := ⟨Y.yb, 0, none⟩) (hu.keep _ _ h.ty (by simp))).trans h.y0; have n33 := (World.cell?_of_block (a := ⟨Y.ab, 0 * 4 + 3, none⟩) (hu.keep _ _ h.ta (by simp))).trans (h.n3 0 (Nat.zero_le _)); have fa3 := (World.frozen?_of_block (a := ⟨Y.ab, 0 * 4 + 3, none⟩) (hu.keep _ _ h.ta (by simp))).trans (h.fa (0 * 4 + 3)); clear g2 g3)
    all_goals (try go_wp2)
    all_goals go_meet
    all_goals exact h.voted 0 t p (Nat.zero_le _) hu (by rw [recCells_append]; exact g1)
  case rest =>
    obtain ⟨Y1, he, hR, hE⟩ := hcut
    have hst := RSt.noteR_st r t p
    have hvs : ((r.noteR t p).nd 0).votes = (r.nd 0).votes ++ [(t, p)] := rfl
    have htr : (r.noteR t p).trans = r.trans := rfl
    have hpr : (r.noteR t p).parts = r.parts := rfl
    have hi1 : Inv (r.noteR t p).st := by rw [hst]; exact hi
    have hvn : ((r.noteR t p).nd 0).votes.length ≤ 9000001 := by rw [hvs]; have := hk.vl 0; simp; omega
    have h2' : t ≤ (r.noteR t p).trans.length := h2
    have hnt : ∀ m, (r.noteR t p).st.noted t m = ((r.noteR t p).nd 0).votes.any (fun v => v.1 == t && v.2 == m) := fun _ => rfl
    clear hov y0 n3 hyl hab hac h hi hz0 hz1 hz2 hii hst hvs htr hn6 HL HS h2 HST hf hk
    generalize r.noteR t p = r1 at *
    have hf1 := RSt.wf hi1
    have hma := refMembers_any hR hf1 t h1 h2'
    rw [show r1.parts = r1.st.parts from rfl, members_parts hi1 t, he.1] at hma
    have HMA := hide hma
    have HAN : Hid (r1.st.allNoted t = allNotedOf r1.st t (members (r1.st.deal t))) := rfl
    have hl5 := members_len5 (r1.st.deal t)
    have HLL := hide (fun w (h : RRep w Y1 r1) => refAll_any h hf1 hi1 t 3 4 h1 h2')
    clear hma
    go_wp2_with fail
    refine (unhide HMA).mono ?_
    rintro e w3 ⟨sa, sc, rfl, hb3, ho3⟩
    have hR3 := hR.below hb3
    have hE3 := hE.trans (Ext.of_below hb3)
    have hos : Owns w3 3 1 ⟨sa, (members (r1.st.deal t)).length, sc⟩ (natCells (members (r1.st.deal t))) := ownsRow_mono ho3 (Nat.zero_le _)
    generalize members (r1.st.deal t) = ms at *
    have hov := hR3.ov 0 (Nat.zero_le _)
    have HVL := hide (by have := hov.len; rw [recCells_length] at this; omega : (Y1.vv 0).n = ((r1.nd 0).votes).length)
    have hvn' : (Y1.vv 0).n ≤ 9000001 := by rw [unhide HVL]; exact hvn
    have y0 := hR3.y0
    have n3 := hR3.n3 0 (Nat.zero_le _)
    have hac := hR3.ac
    rw [he.1, he.2] at y0
    rw [he.2] at n3
    rw [hpr] at y0 hac
    have hyl := World.block_lt_of_cell? w3 _ y0
    have hal := World.block_lt_of_cell? w3 _ n3
    have HNT := hide hnt
    have HR := hide (And.intro hR3 hE3)
    clear HMA ho3 hnt hR hR3 hE hE3 hvn hb3
    generalize (r1.nd 0).votes = vs at *
    generalize Y1.vv 0 = vl at *
    obtain ⟨va, vn, vc⟩ := vl
    simp only at hvn' n3 HVL
    go_wp2_with fail
    go_loopw [9] (fun i wr => ∃ j : Nat, j ≤ ms.length ∧ i = .int .i64 (j : Int) ∧ Below w3.heap.size w3 wr ∧ Hid (∀ m, m ∈ ms.take j → r1.st.noted t m = true)) (fun i _ => ms.length - (intOf i).toNat)
    case atStart => exact ⟨0, Nat.zero_le _, rfl, Below.refl _ _, fun m hm => by simp at hm⟩
    case round =>
      obtain ⟨j, hj, rfl, hb, hall⟩ := hrel
      by_cases hlt : j < ms.length
      · have hx : ms[j]? = some ms[j] := List.getElem?_eq_getElem _
        generalize ms[j] = x at hx
        have HX := hide hx
        obtain ⟨g, hg, hgc, _, hcell⟩ := hos.at (by simp; omega)
        simp only at hg hgc
        subst hg
        have hgl := hos.lt _ rfl
        simp only at hgl
        have z := hcell j _ (natCells_get ms j x hx)
        clear hcell hx
        go_wp2_with fail
        go_loopw [10, 11] (fun ha q wq => ∃ i : Nat, i ≤ vn ∧ q = .int .i64 (i : Int) ∧ ha = .bool ((vs.take i).any (fun v => v.1 == t && v.2 == x)) ∧ Below w3.heap.size w3 wq) (fun _ q _ => vn - (intOf q).toNat)
        case atStart => exact ⟨0, Nat.zero_le _, rfl, by simp, hb⟩
        case round =>
          obtain ⟨i, hi2, rfl, rfl, hbq⟩ := hrel
          have y0q := (hbq.cell (p := ⟨Y.yb, 0, none⟩) hyl).trans y0
          have n3q := (hbq.cell (p := ⟨Y.ab, 0 * 4 + 3, none⟩) hal).trans n3
          have zq := (hbq.cell (p := ⟨g, j, none⟩) hgl).trans z
          by_cases hil : i < vn
          · have hv : vs[i]? = some (vs[i]'(by rw [← unhide HVL]; exact hil)) := List.getElem?_eq_getElem _
            generalize vs[i]'(by rw [← unhide HVL]; exact hil) = v at hv
            have HT := hide (any_take vs (fun v => v.1 == t && v.2 == x) i v hv)
            obtain ⟨gv, hgv, hgvc, _, hcv⟩ := hov.at (by simp; omega)
            simp only at hgv hgvc
            subst hgv
            have hgvl := hov.lt _ rfl
            simp only at hgvl
            obtain ⟨v0, v1⟩ := recCells_get vs i v hv
            have v0 := (hbq.cell (p := ⟨gv, 2 * i, none⟩) hgvl).trans (hcv _ _ v0)
            have v1 := (hbq.cell (p := ⟨gv, 2 * i + 1, none⟩) hgvl).trans (hcv _ _ v1)
            rw [show 2 * i = i * 2 from by omega] at v0 v1
            clear hcv hv hov hos hall
            have hql := hbq.size
            have b0 : (wr.alloc (Obj.cells #[.int .i64 v.1, .int .i64 v.2] 43)).cell? ⟨wr.heap.size, 0, none⟩ = some (.int .i64 v.1) := by simp [go_sem]
            have b1 : (wr.alloc (Obj.cells #[.int .i64 v.1, .int .i64 v.2] 43)).cell? ⟨wr.heap.size, 1, none⟩ = some (.int .i64 v.2) := by simp [go_sem]
            have b2 : (wr.alloc (Obj.cells #[.int .i64 v.1, .int .i64 v.2] 43)).cell? ⟨g, j, none⟩ = some (.int .i64 x) := ((below_alloc wr _).cell (p := ⟨g, j, none⟩) (Nat.lt_of_lt_of_le hgl hql)).trans zq
            cases hh : (vs.take i).any (fun v => v.1 == t && v.2 == x) with
            | true =>
              have HH := hide hh
              clear hh
              go_wp2_with fail
              go_region
              go_wp2
              refine ⟨⟨i + 1, by omega, by go_num, ?_, (hbq.alloc hql _).drew⟩, by simp [intOf]; omega⟩
              rw [unhide HT, unhide HH]; rfl
            | false =>
              have HH := hide hh
              clear hh
              by_cases e1 : v.1 = t
              · have q1 : ((v.1 : Int) == (t : Int)) = true := by rw [e1]; simp
                have E1 := hide e1
                clear e1
                go_wp2_with fail
                go_region
                go_wp2
                refine ⟨⟨i + 1, by omega, by go_num, ?_, (hbq.alloc hql _).drew⟩, by simp [intOf]; omega⟩
                rw [unhide HT, unhide HH, unhide E1]
                simp [nat_beq]
              · have q1 : ((v.1 : Int) == (t : Int)) = false := by rw [beq_eq_false_iff_ne]; omega
                have E1 := hide e1
                clear e1
                go_wp2_with fail
                go_region
                go_wp2
                refine ⟨⟨i + 1, by omega, by go_num, ?_, (hbq.alloc hql _).drew⟩, by simp [intOf]; omega⟩
                rw [unhide HT, unhide HH]
                simp [unhide E1]
          · have hfull : vs.take i = vs := List.take_of_length_le (by rw [← unhide HVL]; omega)
            rw [hfull, ← unhide HNT x]
            clear hfull hov hos
            cases hp : r1.st.noted t x with
            | true =>
              have HP := hide hp
              clear hp
              go_wp2
              refine ⟨⟨j + 1, by omega, by go_num, hbq, ?_⟩, by simp [intOf]; omega⟩
              intro m hm
              rw [List.take_add_one, unhide HX] at hm
              rcases List.mem_append.1 hm with hm | hm
              · exact unhide hall m hm
              · simp at hm; subst hm; exact unhide HP
            | false =>
              have HF : Hid (l = []) := by
                show _ = _
                rw [unhide hl, if_neg]
                rw [unhide HAN]
                intro hh
                have := (allNotedOf_iff _ _ _).1 hh x (List.mem_of_getElem? (unhide HX))
                rw [hp] at this; cases this
              clear hp
              go_wp2
              go_ret
              rw [unhide HF]
              exact ActsOut.toW he (unhide HR).2 (unhide HR).1 (ActsOut.nil hbq)
      · have HF : Hid (l = r1.st.all t 3 4) := by
          show _ = _
          rw [unhide hl, if_pos]
          rw [unhide HAN]
          refine (allNotedOf_iff _ _ _).2 fun m hm => unhide hall m ?_
          rw [List.take_of_length_le (by omega)]
          exact hm
        have hla := unhide HLL wr ((unhide HR).1.below hb)
        rw [he.1] at hla
        have HLA := hide hla
        clear hla hos hov
        go_wp2_with fail
        refine (unhide HLA).mono ?_
        rintro e w5 ho5
        obtain ⟨oa, oc, rfl, hb5, ho5⟩ := ho5
        go_wp2
        go_ret
        rw [unhide HF]
        exact ActsOut.toW he ((unhide HR).2.trans (Ext.of_below hb)) ((unhide HR).1.below hb) ⟨oa, oc, rfl, hb5, ho5⟩
end Go.Proofs.YtekbjlhbjcikdaaGreat
/-
  accordref: walk of acts.
-/
namespace Acc
def RSt.heardR (r : RSt) (m : Msg) : RSt := if m.kind = 2 ∧ r.st.state m.to m.trans = 1 then r.noteR m.trans m.frm else r
theorem RSt.heardR_st (r : RSt) (m : Msg) : (r.heardR m).st = r.st.heard m := by
  unfold RSt.heardR St.heard
  split
  · exact RSt.noteR_st _ _ _
  · rfl
theorem MsgOk.rng {s : St} {m : Msg} (hi : Inv s) (h : MsgOk s m) : 1 ≤ m.trans ∧ m.trans ≤ s.deals.length := hi.rng _ h.1
theorem MsgOk.to_le {s : St} {m : Msg} (hi : Inv s) (h : MsgOk s m) : m.to ≤ s.parts := by
  rcases h.2 with b | b | b | b | b | b
  · exact hi.mem_le b.2.2
  · rw [b.2.1]; exact Nat.zero_le _
  · rw [b.2.1]; exact Nat.zero_le _
  · exact hi.mem_le b.2.1
  · exact hi.mem_le b.2.1
  · rcases b.2.2 with c | c
    · rw [c]; exact Nat.zero_le _
    · exact hi.mem_le c
end Acc
namespace Go.Proofs.YtekbjlhbjcikdaaGreat
open Go.RowKit Acc

def msgV (m : Msg) : Value := .agg #[.int .i64 m.kind, .int .i64 m.frm, .int .i64 m.to, .int .i64 m.trans]
def msgO (m : Msg) : Obj := .cells #[.int .i64 m.kind, .int .i64 m.frm, .int .i64 m.to, .int .i64 m.trans] 109
theorem ActsW.below {Y : RLay} {w w1 : World} {r : RSt} {l : List Deed} {e : Ending} {w' : World} (hb : Below w.heap.size w w1) (h : ActsW Y w1 r l e w') : ActsW Y w r l e w' := by
  obtain ⟨Y', a, cap, he, hy, hR, hE, ho, hn⟩ := h
  exact ⟨Y', a, cap, he, hy, hR, (Ext.of_below hb).trans hE, ho, hn⟩

set_option maxRecDepth 100000 in
set_option maxHeartbeats 4000000 in
theorem refActs_any {w : World} {Y : RLay} {r : RSt} {B : Nat} (h : RRep w Y r) (hk : ROk r B) (hB : B ≤ 9000000) (m : Msg) (hm : MsgOk r.st m) (l : List Deed) (hl : Hid (l = (r.st.heard m).acts m)) :
    Calls Tryz.prog 144 #[.pointer (some ⟨Y.yb, 0, none⟩), .agg #[.int .i64 m.kind, .int .i64 m.frm, .int .i64 m.to, .int .i64 m.trans]] w (ActsW Y w (r.heardR m) l) := by
  have hf := hk.wf
  have hto := MsgOk.to_le hk.ok.inv hm
  have htr := MsgOk.rng hk.ok.inv hm
  have hb0 := below_alloc w (Obj.cells #[.int .i64 m.kind, .int .i64 m.frm, .int .i64 m.to, .int .i64 m.trans] 109)
  have h0 := h.below hb0
  have HST := hide (refState_any h0 hf m.to m.trans hto)
  have HNH : m.kind ≠ 2 → r.heardR m = r ∧ r.st.heard m = r.st := fun hne => ⟨if_neg (fun hh => hne hh.1), if_neg (fun hh => hne hh.1)⟩
  rcases hm.2 with b | b | b | b | b | b
  · obtain ⟨hkd, hfr, _⟩ := b
    have hnh := HNH (by omega)
    have HL2 : Hid (l = r.st.asked ⟨1, 0, m.to, m.trans⟩) := by
      show _ = _
      rw [unhide hl, hnh.2]; unfold St.acts; rw [hkd]; unfold St.asked; simp only [hfr]
    have HCA := hide (refAsked_any h0 hf m.to m.trans hto htr.1 htr.2)
    rw [hnh.1, hkd]
    rw [hkd] at HST HCA h0 hb0
    clear hnh HNH hl hm hkd hfr
    go_enter Tryz.func144, Tryz.ntmps144
    go_wp2_with fail
    refine (unhide HST).mono ?_
    rintro e w1 ⟨rfl, rfl⟩
    go_wp2_with fail
    refine (unhide HCA).mono ?_
    rintro e w2 ⟨oa, oc, rfl, hb2, ho2⟩
    go_wp2
    go_ret
    rw [unhide HL2]
    exact ActsW.below hb0 (ActsOut.toW ⟨rfl, rfl⟩ (Ext.refl _ _) h0 ⟨oa, oc, rfl, hb2, ho2⟩)
  · obtain ⟨hkd, hz, _, hpr⟩ := b
    by_cases hs : r.st.state m.to m.trans = 1
    · have hhr : r.heardR m = r.noteR m.trans m.frm := if_pos ⟨hkd, hs⟩
      have hhs : r.st.heard m = r.st.note m.trans m.frm := if_pos ⟨hkd, hs⟩
      have hs2 : (r.st.note m.trans m.frm).state m.to m.trans = 1 := hs
      have HL2 : Hid (l = if (r.noteR m.trans m.frm).st.allNoted m.trans = true then (r.noteR m.trans m.frm).st.all m.trans 3 4 else []) := by
        show _ = _
        rw [unhide hl, hhs, RSt.noteR_st]; unfold St.acts; rw [hkd]
        simp only [hs2, true_and]
      have hv := refVotes_yes (w := w.alloc (Obj.cells #[.int .i64 m.kind, .int .i64 m.frm, .int .i64 m.to, .int .i64 m.trans] 109)) h0 hk hB m.frm m.trans htr.1 htr.2 (hk.ok.inv.note _ _ hpr) (by rw [hz] at hs; exact hs) l HL2
      have HCA := hide hv
      rw [hhr, hkd]
      rw [hkd] at HST HCA h0 hb0
      clear HNH hl hm hkd hhr hhs hs2 hv hs hz hpr
      go_enter Tryz.func144, Tryz.ntmps144
      go_wp2_with fail
      refine (unhide HST).mono ?_
      rintro e w1 ⟨rfl, rfl⟩
      go_wp2_with fail
      refine (unhide HCA).mono ?_
      rintro e w2 ⟨Y2, oa, oc, rfl, hr2⟩
      go_wp2
      go_ret
      exact ActsW.below hb0 ⟨Y2, oa, oc, rfl, hr2⟩
    · have hhr : r.heardR m = r := if_neg (fun hh => hs hh.2)
      have hhs : r.st.heard m = r.st := if_neg (fun hh => hs hh.2)
      have HL2 : Hid (l = []) := by
        show _ = _
        rw [unhide hl, hhs]; unfold St.acts; rw [hkd]
        simp only [hs, false_and, if_false]
      have hv := refVotes_no (w := w.alloc (Obj.cells #[.int .i64 m.kind, .int .i64 m.frm, .int .i64 m.to, .int .i64 m.trans] 109)) h0 hf m.frm m.trans (by rw [hz] at hs; exact hs)
      have HCA := hide hv
      rw [hhr, hkd]
      rw [hkd] at HST HCA h0 hb0
      clear HNH hl hm hkd hhr hhs hv hs hz hpr
      go_enter Tryz.func144, Tryz.ntmps144
      go_wp2_with fail
      refine (unhide HST).mono ?_
      rintro e w1 ⟨rfl, rfl⟩
      go_wp2_with fail
      refine (unhide HCA).mono ?_
      rintro e w2 ⟨Y2, oa, oc, rfl, hr2⟩
      go_wp2
      go_ret
      rw [unhide HL2]
      exact ActsW.below hb0 ⟨Y2, oa, oc, rfl, hr2⟩
  · obtain ⟨hkd, hz, _, _⟩ := b
    have hnh := HNH (by omega)
    by_cases hs : r.st.state m.to m.trans = 1
    · have HL2 : Hid (l = r.st.all m.trans 4 5) := by
        show _ = _
        rw [unhide hl, hnh.2]; unfold St.acts; rw [hkd]; simp only [hs, if_true]
      have HCA := hide (refAll_any h0 hf hk.ok.inv m.trans 4 5 htr.1 htr.2)
      rw [hs] at HST
      rw [hnh.1, hkd]
      rw [hkd] at HST HCA h0 hb0
      clear hnh HNH hl hm hkd hs hz
      go_enter Tryz.func144, Tryz.ntmps144
      go_wp2_with fail
      refine (unhide HST).mono ?_
      rintro e w1 ⟨rfl, rfl⟩
      go_wp2_with fail
      refine (unhide HCA).mono ?_
      rintro e w2 ⟨oa, oc, rfl, hb2, ho2⟩
      go_wp2
      go_ret
      rw [unhide HL2]
      exact ActsW.below hb0 (ActsOut.toW ⟨rfl, rfl⟩ (Ext.refl _ _) h0 ⟨oa, oc, rfl, hb2, ho2⟩)
    · have HL2 : Hid (l = []) := by
        show _ = _
        rw [unhide hl, hnh.2]; unfold St.acts; rw [hkd]; simp only [hs, if_false]
      have q : ((r.st.state m.to m.trans : Int) == 1) = false := by rw [beq_eq_false_iff_ne]; omega
      rw [hnh.1, hkd]
      rw [hkd] at HST h0 hb0
      clear hnh HNH hl hm hkd hs hz
      go_enter Tryz.func144, Tryz.ntmps144
      go_wp2_with fail
      refine (unhide HST).mono ?_
      rintro e w1 ⟨rfl, rfl⟩
      go_wp2
      go_ret
      rw [unhide HL2]
      exact ActsW.below hb0 (ActsOut.toW ⟨rfl, rfl⟩ (Ext.refl _ _) h0 (ActsOut.nil (Below.refl _ _)))
  · have hkd := b.1
    have hnh := HNH (by omega)
    by_cases hs : r.st.state m.to m.trans = 2
    · have HL2 : Hid (l = [.wrt m.trans 3]) := by
        show _ = _
        rw [unhide hl, hnh.2]; unfold St.acts; rw [hkd]; simp only [hs, if_true]
      rw [hs] at HST
      rw [hnh.1, hkd]
      rw [hkd] at HST h0 hb0
      clear hnh HNH hl hm hkd hs b
      go_enter Tryz.func144, Tryz.ntmps144
      go_wp2_with fail
      refine (unhide HST).mono ?_
      rintro e w1 ⟨rfl, rfl⟩
      go_wp2_with fail
      refine (refRecord_any m.trans 3 _).mono ?_
      rintro e w2 ⟨rfl, hb2⟩
      go_wp2
      go_ret
      rw [unhide HL2]
      exact ActsW.below hb0 (ActsOut.toW ⟨rfl, rfl⟩ (Ext.refl _ _) h0 (ActsOut.new hb2 rfl rfl (by simp) rfl))
    · have HL2 : Hid (l = []) := by
        show _ = _
        rw [unhide hl, hnh.2]; unfold St.acts; rw [hkd]; simp only [hs, if_false]
      have q : ((r.st.state m.to m.trans : Int) == 2) = false := by rw [beq_eq_false_iff_ne]; omega
      rw [hnh.1, hkd]
      rw [hkd] at HST h0 hb0
      clear hnh HNH hl hm hkd hs b
      go_enter Tryz.func144, Tryz.ntmps144
      go_wp2_with fail
      refine (unhide HST).mono ?_
      rintro e w1 ⟨rfl, rfl⟩
      go_wp2
      go_ret
      rw [unhide HL2]
      exact ActsW.below hb0 (ActsOut.toW ⟨rfl, rfl⟩ (Ext.refl _ _) h0 (ActsOut.nil (Below.refl _ _)))
  · have hkd := b.1
    have hnh := HNH (by omega)
    by_cases hs : r.st.state m.to m.trans = 2 ∨ r.st.state m.to m.trans = 0
    · have HL2 : Hid (l = [.wrt m.trans 4]) := by
        show _ = _
        rw [unhide hl, hnh.2]; unfold St.acts; rw [hkd]; simp only [hs, if_true]
      rw [hnh.1, hkd]
      rw [hkd] at HST h0 hb0
      clear hnh HNH hl hm hkd b
      rcases hs with hs | hs
      all_goals
        rw [hs] at HST
        clear hs
        go_enter Tryz.func144, Tryz.ntmps144
        go_wp2_with fail
        refine (unhide HST).mono ?_
        rintro e w1 ⟨rfl, rfl⟩
        go_wp2_with fail
        refine (refRecord_any m.trans 4 _).mono ?_
        rintro e w2 ⟨rfl, hb2⟩
        go_wp2
        go_ret
        rw [unhide HL2]
        exact ActsW.below hb0 (ActsOut.toW ⟨rfl, rfl⟩ (Ext.refl _ _) h0 (ActsOut.new hb2 rfl rfl (by simp) rfl))
    · have HL2 : Hid (l = []) := by
        show _ = _
        rw [unhide hl, hnh.2]; unfold St.acts; rw [hkd]; simp only [hs, if_false]
      have q2 : ((r.st.state m.to m.trans : Int) == 2) = false := by rw [beq_eq_false_iff_ne]; omega
      have q0 : ((r.st.state m.to m.trans : Int) == 0) = false := by rw [beq_eq_false_iff_ne]; omega
      rw [hnh.1, hkd]
      rw [hkd] at HST h0 hb0
      clear hnh HNH hl hm hkd hs b
      go_enter Tryz.func144, Tryz.ntmps144
      go_wp2_with fail
      refine (unhide HST).mono ?_
      rintro e w1 ⟨rfl, rfl⟩
      go_wp2
      go_ret
      rw [unhide HL2]
      exact ActsW.below hb0 (ActsOut.toW ⟨rfl, rfl⟩ (Ext.refl _ _) h0 (ActsOut.nil (Below.refl _ _)))
  · have hkd := b.1
    have hnh := HNH (by omega)
    have HL2 : Hid (l = r.st.doubted m) := by
      show _ = _
      rw [unhide hl, hnh.2]; unfold St.acts; rw [hkd]; rfl
    have HCA := hide (refDoubted_any h0 hf m hto)
    rw [hnh.1, hkd]
    rw [hkd] at HST HCA h0 hb0
    clear hnh HNH hl hm hkd b
    go_enter Tryz.func144, Tryz.ntmps144
    go_wp2_with fail
    refine (unhide HST).mono ?_
    rintro e w1 ⟨rfl, rfl⟩
    go_wp2_with fail
    refine (unhide HCA).mono ?_
    rintro e w2 ⟨oa, oc, rfl, hb2, ho2⟩
    go_wp2
    go_ret
    rw [unhide HL2]
    exact ActsW.below hb0 (ActsOut.toW ⟨rfl, rfl⟩ (Ext.refl _ _) h0 ⟨oa, oc, rfl, hb2, ho2⟩)
end Go.Proofs.YtekbjlhbjcikdaaGreat
