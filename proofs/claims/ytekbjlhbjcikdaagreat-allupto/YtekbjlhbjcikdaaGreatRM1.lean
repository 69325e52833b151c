/-
  RBase, R1, R2, R3, R4, R5, RA, R6, one behind the other.
-/
import Derived.Test.YtekbjlhbjcikdaaGreatBase
import Derived.Test.YtekbjlhbjcikdaaGreatW3
import Derived.Test.YtekbjlhbjcikdaaGreatUpd
import Derived.Deep.RegionLaw
import Derived.Test.YtekbjlhbjcikdaaGreatFace
/-
  The document's own answer (package accordref): its plain model, and how it lies in memory.
-/
namespace Acc

structure RNode where
  up : Bool
  fuse : Int
  log : List (Nat × Nat)
  votes : List (Nat × Nat)

structure RSt where
  parts : Nat
  nd : Nat → RNode
  trans : List (List Wr)
  fly : List Msg

/-- What of it the plain model of the program has too. -/
def RSt.st (r : RSt) : St := ⟨r.parts, fun n => (r.nd n).log, r.trans, fun t m => (r.nd 0).votes.any (fun v => v.1 == t && v.2 == m), r.fly, fun n => (r.nd n).up, fun n => if (r.nd n).fuse < 0 then none else some (r.nd n).fuse.toNat⟩

end Acc
namespace Go.Proofs.YtekbjlhbjcikdaaGreat
open Go.RowKit Acc

inductive RTag where
  | world | nodes | log (i : Nat) | votes (i : Nat) | trans | tran (t : Nat) | fly

structure RLay where
  yb : Nat
  ab : Nat
  ac : Nat
  lv : Nat → Sl
  vv : Nat → Sl
  dv : Sl
  dl : Nat → Sl
  fv : Sl
  own : Nat → Option RTag

def RTagged (own : Nat → Option RTag) (s : Sl) (t : RTag) : Prop := ∀ a, s.a = some a → own a.block = some t

structure RRep (w : World) (Y : RLay) (r : RSt) : Prop where
  y0 : w.cell? ⟨Y.yb, 0, none⟩ = some (.slice (some ⟨Y.ab, 0, none⟩) (r.parts + 1) Y.ac)
  y1 : w.cell? ⟨Y.yb, 1, none⟩ = some (.slice Y.dv.a Y.dv.n Y.dv.cap)
  y2 : w.cell? ⟨Y.yb, 2, none⟩ = some (.slice Y.fv.a Y.fv.n Y.fv.cap)
  fy : ∀ k, w.frozen? ⟨Y.yb, k, none⟩ = false
  ac : r.parts + 1 ≤ Y.ac
  n0 : ∀ i, i ≤ r.parts → w.cell? ⟨Y.ab, i * 4, none⟩ = some (.bool (r.nd i).up)
  n1 : ∀ i, i ≤ r.parts → w.cell? ⟨Y.ab, i * 4 + 1, none⟩ = some (.int .i64 (r.nd i).fuse)
  n2 : ∀ i, i ≤ r.parts → w.cell? ⟨Y.ab, i * 4 + 2, none⟩ = some (.slice (Y.lv i).a (Y.lv i).n (Y.lv i).cap)
  n3 : ∀ i, i ≤ r.parts → w.cell? ⟨Y.ab, i * 4 + 3, none⟩ = some (.slice (Y.vv i).a (Y.vv i).n (Y.vv i).cap)
  fa : ∀ k, w.frozen? ⟨Y.ab, k, none⟩ = false
  ol : ∀ i, i ≤ r.parts → Owns w 43 2 (Y.lv i) (recCells (r.nd i).log)
  ov : ∀ i, i ≤ r.parts → Owns w 43 2 (Y.vv i) (recCells (r.nd i).votes)
  od : Owns w 52 1 Y.dv (slCells Y.dl r.trans.length)
  ow : ∀ t, t < r.trans.length → Owns w 74 3 (Y.dl t) (wrCells (r.trans.getD t []))
  om : Owns w 109 4 Y.fv (msgCells r.fly)
  ty : Y.own Y.yb = some .world
  ta : Y.own Y.ab = some .nodes
  tl : ∀ i, i ≤ r.parts → RTagged Y.own (Y.lv i) (.log i)
  tv : ∀ i, i ≤ r.parts → RTagged Y.own (Y.vv i) (.votes i)
  td : RTagged Y.own Y.dv .trans
  tw : ∀ t, t < r.trans.length → RTagged Y.own (Y.dl t) (.tran t)
  tf : RTagged Y.own Y.fv .fly
  lt : ∀ b t, Y.own b = some t → b < w.heap.size

theorem RRep.frame {w w' : World} {Y : RLay} {r : RSt} (h : RRep w Y r) (hs : w.heap.size ≤ w'.heap.size) (hb : ∀ b t, Y.own b = some t → w'.heap[b]? = w.heap[b]?) : RRep w' Y r where
  y0 := (World.cell?_of_block (hb _ _ h.ty)).trans h.y0
  y1 := (World.cell?_of_block (hb _ _ h.ty)).trans h.y1
  y2 := (World.cell?_of_block (hb _ _ h.ty)).trans h.y2
  fy := fun k => (World.frozen?_of_block (hb _ _ h.ty)).trans (h.fy k)
  ac := h.ac
  n0 := fun i hi => (World.cell?_of_block (hb _ _ h.ta)).trans (h.n0 i hi)
  n1 := fun i hi => (World.cell?_of_block (hb _ _ h.ta)).trans (h.n1 i hi)
  n2 := fun i hi => (World.cell?_of_block (hb _ _ h.ta)).trans (h.n2 i hi)
  n3 := fun i hi => (World.cell?_of_block (hb _ _ h.ta)).trans (h.n3 i hi)
  fa := fun k => (World.frozen?_of_block (hb _ _ h.ta)).trans (h.fa k)
  ol := fun i hi => (h.ol i hi).frame fun a ha => hb _ _ (h.tl i hi a ha)
  ov := fun i hi => (h.ov i hi).frame fun a ha => hb _ _ (h.tv i hi a ha)
  od := h.od.frame fun a ha => hb _ _ (h.td a ha)
  ow := fun t ht => (h.ow t ht).frame fun a ha => hb _ _ (h.tw t ht a ha)
  om := h.om.frame fun a ha => hb _ _ (h.tf a ha)
  ty := h.ty
  ta := h.ta
  tl := h.tl
  tv := h.tv
  td := h.td
  tw := h.tw
  tf := h.tf
  lt := fun b t hbt => Nat.lt_of_lt_of_le (h.lt b t hbt) hs
theorem RRep.below {w w' : World} {Y : RLay} {r : RSt} (h : RRep w Y r) (hb : Below w.heap.size w w') : RRep w' Y r :=
  h.frame hb.size fun b t hbt => hb.block b (h.lt b t hbt)

end Go.Proofs.YtekbjlhbjcikdaaGreat
/-
  Walks of accordref's functions that only read: state, is, place, writes, holder, clash.
-/
namespace Go.Proofs.YtekbjlhbjcikdaaGreat
open Go.RowKit Acc

/-- What the numbers in the document's world keep to. -/
structure RWf (r : RSt) : Prop where
  p1 : 1 ≤ r.parts
  p5 : r.parts ≤ 5
  d12 : r.trans.length ≤ 12
  w6 : ∀ t, (r.trans.getD t []).length ≤ 6
  ll : ∀ n, n ≤ r.parts → ((r.nd n).log).length ≤ 1000000
  lt : ∀ n x, n ≤ r.parts → x ∈ (r.nd n).log → 1 ≤ x.1 ∧ x.1 ≤ r.trans.length

theorem stOf_take_end (l : List (Nat × Nat)) (t i : Nat) (h : l.length ≤ i) : stOf (l.take i) t = stOf l t := by rw [List.take_of_length_le h]

set_option maxRecDepth 100000 in
set_option maxHeartbeats 1000000 in
theorem refState_any {w : World} {Y : RLay} {r : RSt} (h : RRep w Y r) (hf : RWf r) (n t : Nat) (hn : n ≤ r.parts) :
    Calls Tryz.prog 148 #[.pointer (some ⟨Y.yb, 0, none⟩), .int .i64 n, .int .i64 t] w fun e w' => e = .returned (.int .i64 (r.st.state n t)) ∧ w' = w := by
  have ho := h.ol n hn
  have hll := hf.ll n hn
  have hlen := ho.len
  rw [recCells_length] at hlen
  have y0 := h.y0
  have n2 := h.n2 n hn
  have hac := h.ac
  have hp5 := hf.p5
  generalize hsl : Y.lv n = sl at *
  obtain ⟨a, k, cap⟩ := sl
  simp only at hlen n2
  have HL := hide (by omega : ((r.nd n).log).length = k)
  have hk : k ≤ 1000000 := by omega
  have HG : Hid (r.st.state n t = stOf (r.nd n).log t) := rfl
  generalize (r.nd n).log = l at *
  clear hll hlen
  go_enter Tryz.func148, Tryz.ntmps148
  go_wp2
  go_loop [8, 9] (fun s i => ∃ j : Nat, j ≤ k ∧ i = .int .i64 j ∧ s = .int .i64 ((stOf (l.take j) t : Nat) : Int)) (fun _ i => k - (intOf i).toNat)
  case atStart => exact ⟨0, Nat.zero_le _, rfl, rfl⟩
  case round =>
    obtain ⟨j, hj, rfl, rfl⟩ := hrel
    by_cases hlt : j < k
    · have hx : l[j]? = some (l[j]'(by rw [unhide HL]; exact hlt)) := List.getElem?_eq_getElem _
      generalize l[j]'(by rw [unhide HL]; exact hlt) = x at hx
      have HD := hide (stOf_take l t j x hx)
      obtain ⟨g, ha, hcap, _, hc⟩ := ho.at (by simp; omega)
      simp only at ha hcap
      subst ha
      obtain ⟨q0, q1⟩ := recCells_get l j x hx
      have q0 := hc _ _ q0
      have q1 := hc _ _ q1
      rw [show 2 * j = j * 2 from by omega] at q0 q1
      clear hc hx ho
      by_cases hp : x.1 = t
      · have hp2 : ((x.1 : Int) == (t : Int)) = true := by rw [hp]; simp
        have HP := hide hp
        clear hp
        go_wp2
        refine ⟨⟨j + 1, by omega, by go_num, ?_⟩, by simp [intOf]; omega⟩
        rw [unhide HD, if_pos (unhide HP)]
      · have hp2 : ((x.1 : Int) == (t : Int)) = false := by rw [beq_eq_false_iff_ne]; omega
        have HP := hide hp
        clear hp
        go_wp2
        refine ⟨⟨j + 1, by omega, by go_num, ?_⟩, by simp [intOf]; omega⟩
        rw [unhide HD, if_neg (unhide HP)]
    · have HE := hide (stOf_take_end l t j (by rw [unhide HL]; omega))
      go_wp2
      go_ret
      exact ⟨by rw [unhide HG, ← unhide HE]; rfl, rfl⟩

set_option maxRecDepth 100000 in
set_option maxHeartbeats 1000000 in
theorem refIs_any {w : World} {Y : RLay} {r : RSt} (h : RRep w Y r) (hf : RWf r) (p : Int) :
    Calls Tryz.prog 146 #[.pointer (some ⟨Y.yb, 0, none⟩), .int .i64 p] w fun e w' => e = .returned (.bool (decide (0 ≤ p) && decide (p < r.parts + 1))) ∧ w' = w := by
  have y0 := h.y0
  have hp5 := hf.p5
  by_cases h0 : 0 ≤ p
  · go_enter Tryz.func146, Tryz.ntmps146
    go_wp2
    go_ret
    exact ⟨by simp [h0], rfl⟩
  · go_enter Tryz.func146, Tryz.ntmps146
    go_wp2
    go_ret
    exact ⟨by simp; omega, rfl⟩

theorem findW_drop (ws : List Wr) (p k : Int) (i : Nat) (x : Wr) (h : ws[i]? = some x) :
    findW (ws.drop i) p k = if x.part = p ∧ x.key = k then some x.val else findW (ws.drop (i + 1)) p k := by
  rw [List.drop_eq_getElem?_toList_append, h]
  simp [findW]

theorem RRep.deal {w : World} {Y : RLay} {r : RSt} (h : RRep w Y r) (t : Nat) (h1 : 1 ≤ t) (h2 : t ≤ r.trans.length) :
    (Y.dl (t - 1)).n = (r.st.deal t).length ∧ WrAt w (Y.dl (t - 1)).a (r.st.deal t) := (h.ow (t - 1) (by omega)).wrAt

set_option maxRecDepth 100000 in
set_option maxHeartbeats 1000000 in
theorem refWrites_any {w : World} {Y : RLay} {r : RSt} (h : RRep w Y r) (hf : RWf r) (t : Nat) (p k : Int) (h1 : 1 ≤ t) (h2 : t ≤ r.trans.length) :
    Calls Tryz.prog 153 #[.pointer (some ⟨Y.yb, 0, none⟩), .int .i64 t, .int .i64 p, .int .i64 k] w fun e w' => e = .returned (.tuple #[.int .i64 ((findW (r.st.deal t) p k).getD 0), .bool (findW (r.st.deal t) p k).isSome]) ∧ w' = w := by
  obtain ⟨hn, hw⟩ := h.deal t h1 h2
  have hw6 : (r.st.deal t).length ≤ 6 := hf.w6 (t - 1)
  have hl := h.od.len
  rw [slCells_length] at hl
  obtain ⟨g, ha, hcap, _, hc⟩ := h.od.at (by omega)
  have y1 := h.y1
  rw [ha] at y1
  have hd12 := hf.d12
  have hcell := hc _ _ (slCells_get Y.dl r.trans.length (t - 1) (by omega))
  obtain ⟨u, rfl⟩ : ∃ u, t = u + 1 := ⟨t - 1, by omega⟩
  simp only [Nat.add_sub_cancel] at hcell hn hw
  have e1 : (((u + 1 : Nat) : Int) - 1) = (u : Int) := by omega
  have hun : u < Y.dv.n := by omega
  have hdn : Y.dv.n ≤ 12 := by omega
  have HN := hide hn.symm
  generalize r.st.deal (u + 1) = ws at *
  generalize Y.dl u = sl at *
  obtain ⟨a, n, cap⟩ := sl
  simp only at hcell hw HN
  have hn6 : n ≤ 6 := by rw [← unhide HN]; exact hw6
  clear hc hl hn ha
  go_enter Tryz.func153, Tryz.ntmps153
  go_wp2
  go_loop [11] (fun i => ∃ j : Nat, j ≤ n ∧ i = .int .i64 j ∧ Hid (findW ws p k = findW (ws.drop j) p k)) (fun i => n - (intOf i).toNat)
  case atStart => exact ⟨0, Nat.zero_le _, rfl, by simp [Hid]⟩
  case round =>
    obtain ⟨j, hj, rfl, hv⟩ := hrel
    by_cases hlt : j < n
    · have hx : ws[j]? = some (ws[j]'(by rw [unhide HN]; exact hlt)) := List.getElem?_eq_getElem _
      generalize ws[j]'(by rw [unhide HN]; exact hlt) = x at hx
      have HD := hide (findW_drop ws p k j x hx)
      rcases hw with h0 | ⟨gl, ol, ha, hgl, hcl⟩
      · simp [h0] at hx
      · subst ha
        obtain ⟨z0, z1, z2⟩ := hcl j x hx
        clear hcl hx
        by_cases hp : x.part = p
        · have hp2 : (x.part == p) = true := by simpa using hp
          have HP := hide hp
          clear hp
          by_cases hk : x.key = k
          · have hk2 : (x.key == k) = true := by simpa using hk
            have HK := hide hk
            clear hk
            go_wp2
            go_ret2
            exact ⟨by rw [hv.out, unhide HD, if_pos ⟨unhide HP, unhide HK⟩]; rfl, rfl⟩
          · have hk2 : (x.key == k) = false := by simpa using hk
            have HK := hide hk
            clear hk
            go_wp2
            refine ⟨⟨j + 1, by omega, by go_num, ?_⟩, by simp [intOf]; omega⟩
            show _ = _
            rw [hv.out, unhide HD, if_neg (fun hh => unhide HK hh.2)]
        · have hp2 : (x.part == p) = false := by simpa using hp
          have HP := hide hp
          clear hp
          go_wp2
          refine ⟨⟨j + 1, by omega, by go_num, ?_⟩, by simp [intOf]; omega⟩
          show _ = _
          rw [hv.out, unhide HD, if_neg (fun hh => unhide HP hh.1)]
    · have HE : Hid (findW (ws.drop j) p k = none) := by
        show _ = _
        rw [List.drop_of_length_le (by rw [unhide HN]; omega)]; rfl
      go_wp2
      go_ret2
      exact ⟨by rw [hv.out, unhide HE]; rfl, rfl⟩

set_option maxRecDepth 100000 in
set_option maxHeartbeats 1000000 in
theorem refHolder_any {w : World} {Y : RLay} {r : RSt} (h : RRep w Y r) (hf : RWf r) (p : Nat) (k : Int) (hp : p ≤ r.parts) :
    Calls Tryz.prog 154 #[.pointer (some ⟨Y.yb, 0, none⟩), .int .i64 p, .int .i64 k] w fun e w' => e = .returned (.int .i64 (r.st.holder p k)) ∧ w' = w := by
  have y1 := h.y1
  have h12 := hf.d12
  have HD := hide (by have := h.od.len; rw [slCells_length] at this; omega : Y.dv.n = r.trans.length)
  have hdn : Y.dv.n ≤ 12 := by rw [unhide HD]; exact h12
  clear h12
  have HH : Hid (r.st.holder p k = holdFrom r.st p k r.trans.length 1) := rfl
  go_enter Tryz.func154, Tryz.ntmps154
  go_wp2
  go_loop [7] (fun i => ∃ j : Nat, j ≤ Y.dv.n ∧ i = .int .i64 ((j : Int) + 1) ∧ Hid (r.st.holder p k = holdFrom r.st p k (Y.dv.n - j) (j + 1))) (fun i => (13 - intOf i).toNat)
  case atStart => exact ⟨0, Nat.zero_le _, rfl, by show _ = _; rw [unhide HD]; rfl⟩
  case round =>
    obtain ⟨j, hj, rfl, hv⟩ := hrel
    by_cases hlt : j < Y.dv.n
    · have HS := hide (show holdFrom r.st p k (Y.dv.n - j) (j + 1) = if r.st.holds p k (j + 1) then j + 1 else holdFrom r.st p k (Y.dv.n - (j + 1)) (j + 1 + 1) by
        rw [show Y.dv.n - j = (Y.dv.n - (j + 1)) + 1 from by omega]; rfl)
      have hw := refWrites_any h hf (j + 1) p k (by omega) (by rw [← unhide HD]; omega)
      have hs := refState_any h hf p (j + 1) hp
      rw [show ((j + 1 : Nat) : Int) = (j : Int) + 1 from by omega] at hw hs
      have HW := hide hw
      have HST := hide hs
      clear hw hs
      go_wp2_with fail
      refine (unhide HW).mono ?_
      rintro e w1 ⟨rfl, rfl⟩
      go_wp2_with fail
      refine (unhide HST).mono ?_
      rintro e w2 ⟨rfl, rfl⟩
      cases hfw : findW (r.st.deal (j + 1)) p k with
      | none =>
        have HF := hide hfw
        clear hfw
        go_wp2
        refine ⟨⟨j + 1, by omega, by go_num, ?_⟩, by simp [intOf]; omega⟩
        show _ = _
        rw [hv.out, unhide HS, if_neg (by simp [St.holds, unhide HF])]
      | some v =>
        have HF := hide hfw
        clear hfw
        by_cases hs2 : r.st.state p (j + 1) = 2
        · have hb : ((r.st.state p (j + 1) : Int) == 2) = true := by rw [hs2]; rfl
          have H2 := hide hs2
          clear hs2
          go_wp2
          go_ret
          refine ⟨?_, rfl⟩
          rw [hv.out, unhide HS, if_pos (by simp [St.holds, unhide HF, unhide H2])]; rfl
        · have hb : ((r.st.state p (j + 1) : Int) == 2) = false := by rw [beq_eq_false_iff_ne]; omega
          have H2 := hide hs2
          clear hs2
          go_wp2
          refine ⟨⟨j + 1, by omega, by go_num, ?_⟩, by simp [intOf]; omega⟩
          show _ = _
          rw [hv.out, unhide HS, if_neg (by simp [St.holds, unhide H2])]
    · have HZ := hide (show holdFrom r.st p k (Y.dv.n - j) (j + 1) = 0 by rw [show Y.dv.n - j = 0 from by omega]; rfl)
      go_wp2
      go_ret
      exact ⟨by rw [hv.out, unhide HZ]; rfl, rfl⟩

end Go.Proofs.YtekbjlhbjcikdaaGreat
/-
  Walks of accordref's functions that only read: members, clash, place.
-/
namespace Go.Proofs.YtekbjlhbjcikdaaGreat
open Go.RowKit Acc

theorem hasPart_append' (a b : List Wr) (p : Int) : hasPart (a ++ b) p = (hasPart a p || hasPart b p) := by
  induction a with
  | nil => simp [hasPart]
  | cons x r ih => simp [hasPart, ih, Bool.or_assoc]
theorem hasPart_take' (ws : List Wr) (p : Int) (i : Nat) (x : Wr) (h : ws[i]? = some x) : hasPart (ws.take (i + 1)) p = (hasPart (ws.take i) p || decide (x.part = p)) := by
  rw [List.take_add_one, h, hasPart_append']; simp [hasPart]

/-- The slice of writes of a transaction, as the walk reads it. -/
theorem RRep.tran {w : World} {Y : RLay} {r : RSt} (h : RRep w Y r) (hf : RWf r) (u : Nat) (hu : u < r.trans.length) :
    ∃ g, Y.dv.a = some ⟨g, 0, none⟩ ∧ u < Y.dv.n ∧ Y.dv.n ≤ 12 ∧ w.cell? ⟨g, u, none⟩ = some (.slice (Y.dl u).a (Y.dl u).n (Y.dl u).cap) ∧ (Y.dl u).n = (r.trans.getD u []).length ∧ (Y.dl u).n ≤ 6 ∧ WrAt w (Y.dl u).a (r.trans.getD u []) ∧ g < w.heap.size := by
  obtain ⟨hn, hw⟩ := (h.ow u hu).wrAt
  have hl := h.od.len
  rw [slCells_length] at hl
  have hd12 := hf.d12
  obtain ⟨g, ha, hcap, _, hc⟩ := h.od.at (by omega)
  exact ⟨g, ha, by omega, by omega, hc _ _ (slCells_get Y.dl r.trans.length u hu), hn, by rw [hn]; exact hf.w6 u, hw, h.od.lt _ ha⟩

set_option maxRecDepth 100000 in
set_option maxHeartbeats 2000000 in
theorem refMembers_any {w : World} {Y : RLay} {r : RSt} (h : RRep w Y r) (hf : RWf r) (t : Nat) (h1 : 1 ≤ t) (h2 : t ≤ r.trans.length) :
    Calls Tryz.prog 150 #[.pointer (some ⟨Y.yb, 0, none⟩), .int .i64 t] w fun e w' => ∃ sa sc, e = .returned (.slice sa (membersTo (r.st.deal t) r.parts).length sc) ∧ Below w.heap.size w w' ∧
      w'.ownsRow w.heap.size 3 1 (.slice sa (membersTo (r.st.deal t) r.parts).length sc) (membersTo (r.st.deal t) r.parts).length (natCells (membersTo (r.st.deal t) r.parts)) := by
  obtain ⟨u, rfl⟩ : ∃ u, t = u + 1 := ⟨t - 1, by omega⟩
  obtain ⟨g, ha, hun, hdn, hcell, hn, hn6, hw, hgl⟩ := h.tran hf u (by omega)
  have hdeal : r.st.deal (u + 1) = r.trans.getD u [] := rfl
  rw [hdeal]
  have y0 := h.y0
  have y1 := h.y1
  rw [ha] at y1
  have hac := h.ac
  have hp5 := hf.p5
  have e1 : (((u + 1 : Nat) : Int) - 1) = (u : Int) := by omega
  have HN := hide hn.symm
  generalize r.trans.getD u [] = ws at *
  generalize Y.dl u = sl at *
  obtain ⟨a, n, cap⟩ := sl
  simp only at hcell hw HN hn6
  obtain ⟨i0, hi, hz0, hz1, hz2⟩ := info_parts Tryz.infoInt
  have hyl := World.block_lt_of_cell? w _ y0
  clear hn ha hdeal
  go_enter Tryz.func150, Tryz.ntmps150
  go_wp2
  go_loopw [5, 7] (fun ms i wr => ∃ j : Nat, j ≤ r.parts ∧ i = .int .i64 ((j : Int) + 1) ∧ Below w.heap.size w wr ∧ ∃ sa sc, ms = .slice sa (membersTo ws j).length sc ∧
      wr.ownsRow w.heap.size 3 1 (.slice sa (membersTo ws j).length sc) (membersTo ws j).length (natCells (membersTo ws j))) (fun _ i _ => 6 - (intOf i).toNat)
  case atStart => exact ⟨0, Nat.zero_le _, rfl, Below.refl _ _, none, 0, rfl, by simpa [membersTo, natCells] using World.ownsRow_nil _ _ _ _⟩
  case round =>
    obtain ⟨j, hj, rfl, hb, sa, sc, rfl, hown⟩ := hrel
    have hlen := membersTo_len ws j
    have hsz := hb.size
    have y0' := (hb.cell (p := ⟨Y.yb, 0, none⟩) hyl).trans y0
    by_cases hlt : j < r.parts
    · have hs : membersTo ws (j + 1) = membersTo ws j ++ (if hasPart ws ((j : Int) + 1) then [j + 1] else []) := rfl
      have HS := hide hs
      clear hs
      have hw' := hw.below hb
      generalize membersTo ws j = m at *
      go_wp2_with fail
      go_loop [8, 9] (fun ag q => ∃ i : Nat, i ≤ n ∧ q = .int .i64 i ∧ ag = .bool (hasPart (ws.take i) ((j : Int) + 1))) (fun _ q => n - (intOf q).toNat)
      case atStart => exact ⟨0, Nat.zero_le _, rfl, by simp [hasPart]⟩
      case round =>
        obtain ⟨i, hi2, rfl, rfl⟩ := hrel
        by_cases hil : i < n
        · have hx : ws[i]? = some (ws[i]'(by rw [unhide HN]; exact hil)) := List.getElem?_eq_getElem _
          generalize ws[i]'(by rw [unhide HN]; exact hil) = x at hx
          have HT := hide (hasPart_take' ws ((j : Int) + 1) i x hx)
          rcases hw' with h0 | ⟨gl, ol, hal, hgl2, hcl⟩
          · simp [h0] at hx
          · subst hal
            obtain ⟨z0, z1, z2⟩ := hcl i x hx
            clear hcl hx hw hown
            cases hh : hasPart (ws.take i) ((j : Int) + 1) with
            | true =>
              have HH := hide hh
              clear hh
              go_wp2
              refine ⟨⟨i + 1, by omega, by go_num, ?_⟩, by simp [intOf]; omega⟩
              rw [unhide HT, unhide HH]; rfl
            | false =>
              have HH := hide hh
              clear hh
              go_wp2
              all_goals
                refine ⟨⟨i + 1, by omega, by go_num, ?_⟩, by simp [intOf]; omega⟩
                rw [unhide HT, unhide HH]
                simp [*]
                try rfl
        · have hfull : ws.take i = ws := List.take_of_length_le (by rw [unhide HN]; omega)
          rw [hfull]
          clear hfull hw hw'
          cases hp : hasPart ws ((j : Int) + 1) with
          | true =>
            have HM : Hid (membersTo ws (j + 1) = m ++ [j + 1]) := by show _ = _; rw [unhide HS, hp]; rfl
            clear hp
            go_wp2_with (at_builtin; refine wpList_append_own _ rfl _ _ 56 rfl w.heap.size 3 i0 (.int .i64 0) 1 8 Tryz.underlying56 hi hz0 hz1 hz2 rfl (by decide) _ _ _ rfl (hown.alloc _) ⟨wr.heap.size, 0, none⟩ 1 1 [.int .i64 ((j : Int) + 1)] rfl rfl (cell_one_new _ _ _) (fun x hx => by simp at hx; subst hx; rfl) (by unfold maxLen; omega) (by omega) (by simp; omega) ?_; intro v' w3 hown' hgrow3 hnil3)
            obtain ⟨sa', sc', rfl⟩ := ownsRow_sl hown'
            refine ⟨⟨j + 1, by omega, by go_num, ?_, sa', sc', ?_, ?_⟩, by simp [intOf]; omega⟩
            · exact (hb.alloc hsz _).grown hgrow3 (by simp; omega) (fun k hk => (hown.lt k hk).1)
            · rw [unhide HM]; simp
            · rw [unhide HM, natCells_append]; simpa [natCells] using hown'
          | false =>
            have HM : Hid (membersTo ws (j + 1) = m) := by show _ = _; rw [unhide HS, hp]; simp
            clear hp
            go_wp2
            refine ⟨⟨j + 1, by omega, by go_num, hb, sa, sc, ?_, ?_⟩, by simp [intOf]; omega⟩
            · rw [unhide HM]
            · rw [unhide HM]; exact hown
    · have hjp : j = r.parts := by omega
      subst hjp
      go_wp2
      go_ret
      exact ⟨sa, sc, rfl, hb, hown⟩

end Go.Proofs.YtekbjlhbjcikdaaGreat
/-
  What becomes of the document's world in memory when a node, what is flying, or the transactions are turned.
-/
namespace Acc

def RSt.setNode (r : RSt) (i : Nat) (x : RNode) : RSt := { r with nd := fun n => if n = i then x else r.nd n }
def RSt.send (r : RSt) (m : Msg) : RSt := { r with fly := if r.fly.length < 60 then r.fly ++ [m] else r.fly }
def RSt.write (r : RSt) (i t st : Nat) : RSt := r.setNode i { r.nd i with log := (r.nd i).log ++ [(t, st)] }
def RSt.down (r : RSt) (i : Nat) : RSt := r.setNode i { r.nd i with up := false, fuse := -1, votes := [] }

def RSt.act (r : RSt) (i : Nat) : Deed → RSt
  | .wrt t st => r.write i t st
  | .snd m => r.send m
def RSt.burn (r : RSt) (i : Nat) : RSt := if 0 < (r.nd i).fuse then r.setNode i { r.nd i with fuse := (r.nd i).fuse - 1 } else r
/-- A node does acts, as far as its fuse lets it; false: it has crashed. -/
def RSt.does (r : RSt) (i : Nat) : List Deed → RSt × Bool
  | [] => (r, true)
  | a :: l => if (r.nd i).fuse = 0 then (r.down i, false) else ((r.burn i).act i a).does i l

end Acc
namespace Go.Proofs.YtekbjlhbjcikdaaGreat
open Go.RowKit Acc

def RLeaves (Y : RLay) (w : World) (r' : RSt) (w' : World) : Prop := ∃ Y', (Y'.yb = Y.yb ∧ Y'.ab = Y.ab) ∧ RRep w' Y' r' ∧ Ext Y.own w Y'.own w'
theorem RLeaves.trans {Y Y1 : RLay} {w w1 w2 : World} {r : RSt} (hy : Y1.yb = Y.yb ∧ Y1.ab = Y.ab) (he : Ext Y.own w Y1.own w1) (h : RLeaves Y1 w1 r w2) : RLeaves Y w r w2 := by
  obtain ⟨Y2, a, c, d⟩ := h
  exact ⟨Y2, ⟨a.1.trans hy.1, a.2.trans hy.2⟩, c, he.trans d⟩
theorem RLeaves.below {Y : RLay} {w w1 w2 : World} {r : RSt} (h : Below w.heap.size w w1) (k : RLeaves Y w1 r w2) : RLeaves Y w r w2 := RLeaves.trans ⟨rfl, rfl⟩ (Ext.of_below h) k
theorem RLeaves.then_below {Y : RLay} {w w1 w2 : World} {r : RSt} (k : RLeaves Y w r w1) (h : Below w1.heap.size w1 w2) : RLeaves Y w r w2 := by
  obtain ⟨Y2, a, c, d⟩ := k
  exact ⟨Y2, a, c.below h, d.trans (Ext.of_below h)⟩
theorem RRep.free {w : World} {Y : RLay} {r : RSt} (h : RRep w Y r) {b : Nat} (hb : w.heap.size ≤ b) : Y.own b = none := by
  cases ho : Y.own b with
  | none => rfl
  | some u => have := h.lt b u ho; omega

/-- One node has turned: its four cells are others; its log and its votes may lie elsewhere. -/
theorem RRep.node {w w4 : World} {Y : RLay} {r : RSt} (h : RRep w Y r) (i : Nat) (x : RNode) (lv' vv' : Sl) (own' : Nat → Option RTag)
    (hb : ∀ b t, Y.own b = some t → t ≠ .log i → t ≠ .votes i → t ≠ .nodes → w4.heap[b]? = w.heap[b]?)
    (ho : ∀ b t, Y.own b = some t → t ≠ .log i → t ≠ .votes i → own' b = some t)
    (hc : ∀ k, (∀ c, c < 4 → k ≠ i * 4 + c) → w4.cell? ⟨Y.ab, k, none⟩ = w.cell? ⟨Y.ab, k, none⟩) (hfa : ∀ k, w4.frozen? ⟨Y.ab, k, none⟩ = false)
    (c0 : w4.cell? ⟨Y.ab, i * 4, none⟩ = some (.bool x.up)) (c1 : w4.cell? ⟨Y.ab, i * 4 + 1, none⟩ = some (.int .i64 x.fuse)) (c2 : w4.cell? ⟨Y.ab, i * 4 + 2, none⟩ = some (.slice lv'.a lv'.n lv'.cap)) (c3 : w4.cell? ⟨Y.ab, i * 4 + 3, none⟩ = some (.slice vv'.a vv'.n vv'.cap))
    (o2 : Owns w4 43 2 lv' (recCells x.log)) (o3 : Owns w4 43 2 vv' (recCells x.votes)) (t2 : RTagged own' lv' (.log i)) (t3 : RTagged own' vv' (.votes i))
    (hlt : ∀ b t, own' b = some t → b < w4.heap.size) :
    RRep w4 { Y with lv := fun n => if n = i then lv' else Y.lv n, vv := fun n => if n = i then vv' else Y.vv n, own := own' } (r.setNode i x) := by
  have cy : ∀ k, w4.cell? ⟨Y.yb, k, none⟩ = w.cell? ⟨Y.yb, k, none⟩ := fun k => World.cell?_of_block (a := ⟨Y.yb, k, none⟩) (hb _ _ h.ty (by simp) (by simp) (by simp))
  have hcn : ∀ n c, n ≠ i → c < 4 → w4.cell? ⟨Y.ab, n * 4 + c, none⟩ = w.cell? ⟨Y.ab, n * 4 + c, none⟩ := fun n c hn hc4 => hc _ (fun c' hc' => by omega)
  refine ⟨(cy 0).trans h.y0, (cy 1).trans h.y1, (cy 2).trans h.y2, fun k => (World.frozen?_of_block (a := ⟨Y.yb, k, none⟩) (hb _ _ h.ty (by simp) (by simp) (by simp))).trans (h.fy k), h.ac, ?_, ?_, ?_, ?_, hfa, ?_, ?_, ?_, ?_, ?_, ho _ _ h.ty (by simp) (by simp), ho _ _ h.ta (by simp) (by simp), ?_, ?_, ?_, ?_, ?_, hlt⟩
  · intro n hn
    by_cases e : n = i
    · subst e; simp only [RSt.setNode, if_true]; exact c0
    · simp only [RSt.setNode, if_neg e]; exact (hcn n 0 e (by omega)).trans (h.n0 n hn)
  · intro n hn
    by_cases e : n = i
    · subst e; simp only [RSt.setNode, if_true]; exact c1
    · simp only [RSt.setNode, if_neg e]; exact (hcn n 1 e (by omega)).trans (h.n1 n hn)
  · intro n hn
    by_cases e : n = i
    · subst e; simp only [if_true]; exact c2
    · simp only [if_neg e]; exact (hcn n 2 e (by omega)).trans (h.n2 n hn)
  · intro n hn
    by_cases e : n = i
    · subst e; simp only [if_true]; exact c3
    · simp only [if_neg e]; exact (hcn n 3 e (by omega)).trans (h.n3 n hn)
  · intro n hn
    by_cases e : n = i
    · subst e; simp only [RSt.setNode, if_true]; exact o2
    · simp only [RSt.setNode, if_neg e]; exact (h.ol n hn).frame fun a ha => hb _ _ (h.tl n hn a ha) (by simp [e]) (by simp) (by simp)
  · intro n hn
    by_cases e : n = i
    · subst e; simp only [RSt.setNode, if_true]; exact o3
    · simp only [RSt.setNode, if_neg e]; exact (h.ov n hn).frame fun a ha => hb _ _ (h.tv n hn a ha) (by simp) (by simp [e]) (by simp)
  · exact h.od.frame fun a ha => hb _ _ (h.td a ha) (by simp) (by simp) (by simp)
  · exact fun t ht => (h.ow t ht).frame fun a ha => hb _ _ (h.tw t ht a ha) (by simp) (by simp) (by simp)
  · exact h.om.frame fun a ha => hb _ _ (h.tf a ha) (by simp) (by simp) (by simp)
  · intro n hn a ha
    by_cases e : n = i
    · subst e; simp only [if_true] at ha; exact t2 a ha
    · simp only [if_neg e] at ha; exact ho _ _ (h.tl n hn a ha) (by simp [e]) (by simp)
  · intro n hn a ha
    by_cases e : n = i
    · subst e; simp only [if_true] at ha; exact t3 a ha
    · simp only [if_neg e] at ha; exact ho _ _ (h.tv n hn a ha) (by simp) (by simp [e])
  · exact fun a ha => ho _ _ (h.td a ha) (by simp) (by simp)
  · exact fun t ht a ha => ho _ _ (h.tw t ht a ha) (by simp) (by simp)
  · exact fun a ha => ho _ _ (h.tf a ha) (by simp) (by simp)

theorem cell_set_same {w : World} {b k : Nat} {u v : Value} (h : w.cell? ⟨b, k, none⟩ = some u) : (w.setCell ⟨b, k, none⟩ v).cell? ⟨b, k, none⟩ = some v := World.cell?_setCell_same _ _ _ h
theorem cell_set_ne {w : World} {b k j : Nat} {v : Value} (h : j ≠ k) : (w.setCell ⟨b, k, none⟩ v).cell? ⟨b, j, none⟩ = w.cell? ⟨b, j, none⟩ :=
  World.cell?_setCell_other _ _ _ _ (by intro e; injection e with _ e; exact h e.symm)

/-- The fuse of a node is another. -/
theorem RRep.fused {w : World} {Y : RLay} {r : RSt} (h : RRep w Y r) (i : Nat) (hi : i ≤ r.parts) (f : Int) : RLeaves Y w (r.setNode i { r.nd i with fuse := f }) (w.setCell ⟨Y.ab, i * 4 + 1, none⟩ (.int .i64 f)) := by
  have hbk : ∀ b, b ≠ Y.ab → (w.setCell ⟨Y.ab, i * 4 + 1, none⟩ (.int .i64 f)).heap[b]? = w.heap[b]? := fun b hb => block_setCell hb
  have hN := h.node i { r.nd i with fuse := f } (Y.lv i) (Y.vv i) Y.own (fun b t hb _ _ h3 => hbk b (fun e => by rw [e, h.ta] at hb; injection hb with hb; exact h3 hb.symm)) (fun b t hb _ _ => hb)
    (fun k hk => cell_set_ne (hk 1 (by omega))) (fun k => by simpa using h.fa k) ((cell_set_ne (by omega)).trans (h.n0 i hi)) (cell_set_same (h.n1 i hi)) ((cell_set_ne (by omega)).trans (h.n2 i hi)) ((cell_set_ne (by omega)).trans (h.n3 i hi))
    ((h.ol i hi).frame fun a ha => hbk _ (tag_ne (h.tl i hi a ha) h.ta (by simp))) ((h.ov i hi).frame fun a ha => hbk _ (tag_ne (h.tv i hi a ha) h.ta (by simp))) (h.tl i hi) (h.tv i hi) (fun b t hb => by have := h.lt b t hb; simpa [World.setCell] using this)
  refine ⟨_, ?_, hN, rfl, rfl, rfl, by simp [World.setCell], fun b hb hn => ⟨hbk b (fun e => by rw [e, h.ta] at hn; cases hn), hn⟩⟩
  exact ⟨rfl, rfl⟩
/-- A node is up, or is not. -/
theorem RRep.upped {w : World} {Y : RLay} {r : RSt} (h : RRep w Y r) (i : Nat) (hi : i ≤ r.parts) (u : Bool) : RLeaves Y w (r.setNode i { r.nd i with up := u }) (w.setCell ⟨Y.ab, i * 4, none⟩ (.bool u)) := by
  have hbk : ∀ b, b ≠ Y.ab → (w.setCell ⟨Y.ab, i * 4, none⟩ (.bool u)).heap[b]? = w.heap[b]? := fun b hb => block_setCell hb
  have hN := h.node i { r.nd i with up := u } (Y.lv i) (Y.vv i) Y.own (fun b t hb _ _ h3 => hbk b (fun e => by rw [e, h.ta] at hb; injection hb with hb; exact h3 hb.symm)) (fun b t hb _ _ => hb)
    (fun k hk => cell_set_ne (by have := hk 0 (by omega); omega)) (fun k => by simpa using h.fa k) (cell_set_same (h.n0 i hi)) ((cell_set_ne (by omega)).trans (h.n1 i hi)) ((cell_set_ne (by omega)).trans (h.n2 i hi)) ((cell_set_ne (by omega)).trans (h.n3 i hi))
    ((h.ol i hi).frame fun a ha => hbk _ (tag_ne (h.tl i hi a ha) h.ta (by simp))) ((h.ov i hi).frame fun a ha => hbk _ (tag_ne (h.tv i hi a ha) h.ta (by simp))) (h.tl i hi) (h.tv i hi) (fun b t hb => by have := h.lt b t hb; simpa [World.setCell] using this)
  refine ⟨_, ?_, hN, rfl, rfl, rfl, by simp [World.setCell], fun b hb hn => ⟨hbk b (fun e => by rw [e, h.ta] at hn; cases hn), hn⟩⟩
  exact ⟨rfl, rfl⟩
/-- A node's votes are forgotten. -/
theorem RRep.unvoted {w : World} {Y : RLay} {r : RSt} (h : RRep w Y r) (i : Nat) (hi : i ≤ r.parts) : RLeaves Y w (r.setNode i { r.nd i with votes := [] }) (w.setCell ⟨Y.ab, i * 4 + 3, none⟩ (.slice none 0 0)) := by
  have hbk : ∀ b, b ≠ Y.ab → (w.setCell ⟨Y.ab, i * 4 + 3, none⟩ (.slice none 0 0)).heap[b]? = w.heap[b]? := fun b hb => block_setCell hb
  have hN := h.node i { r.nd i with votes := [] } (Y.lv i) ⟨none, 0, 0⟩ Y.own (fun b t hb _ _ h3 => hbk b (fun e => by rw [e, h.ta] at hb; injection hb with hb; exact h3 hb.symm)) (fun b t hb _ _ => hb)
    (fun k hk => cell_set_ne (hk 3 (by omega))) (fun k => by simpa using h.fa k) ((cell_set_ne (by omega)).trans (h.n0 i hi)) ((cell_set_ne (by omega)).trans (h.n1 i hi)) ((cell_set_ne (by omega)).trans (h.n2 i hi)) (cell_set_same (h.n3 i hi))
    ((h.ol i hi).frame fun a ha => hbk _ (tag_ne (h.tl i hi a ha) h.ta (by simp))) (World.ownsRow_nil _ _ _ _) (h.tl i hi) (fun a ha => by cases ha) (fun b t hb => by have := h.lt b t hb; simpa [World.setCell] using this)
  refine ⟨_, ?_, hN, rfl, rfl, rfl, by simp [World.setCell], fun b hb hn => ⟨hbk b (fun e => by rw [e, h.ta] at hn; cases hn), hn⟩⟩
  exact ⟨rfl, rfl⟩

end Go.Proofs.YtekbjlhbjcikdaaGreat
/-
  accordref: a record is written, a vote noted, a message sent: in memory; walks of fly, down and does.
-/
namespace Go.Proofs.YtekbjlhbjcikdaaGreat
open Go.RowKit Acc

theorem retag_lt {τ : Type} {own : Nat → Option τ} {w w4 : World} {k : Nat} {t0 : τ} (hlt : ∀ b t, own b = some t → b < w.heap.size) (hs : w.heap.size ≤ w4.heap.size) (hk : k < w4.heap.size) : ∀ b t, retag own k t0 b = some t → b < w4.heap.size := by
  intro b t hb
  unfold retag at hb
  split at hb
  · rename_i e; rw [e]; exact hk
  · exact Nat.lt_of_lt_of_le (hlt b t hb) hs

theorem RRep.logged {w w3 : World} {Y : RLay} {r : RSt} (h : RRep w Y r) (i t st : Nat) (hi : i ≤ r.parts) {k n cap' : Nat} (hu : Upd w w3 Y.own (.log i) k)
    (ho : w3.ownsRow 0 43 2 (.slice (some ⟨k, 0, none⟩) n cap') n (recCells ((r.nd i).log ++ [(t, st)]))) :
    RLeaves Y w (r.write i t st) (w3.setCell ⟨Y.ab, i * 4 + 2, none⟩ (.slice (some ⟨k, 0, none⟩) n cap')) := by
  have hk := hu.tagged
  have ba : w3.heap[Y.ab]? = w.heap[Y.ab]? := hu.keep _ _ h.ta (by simp)
  have cA : ∀ o, w3.cell? ⟨Y.ab, o, none⟩ = w.cell? ⟨Y.ab, o, none⟩ := fun o => World.cell?_of_block (a := ⟨Y.ab, o, none⟩) ba
  have fA : ∀ o, w3.frozen? ⟨Y.ab, o, none⟩ = w.frozen? ⟨Y.ab, o, none⟩ := fun o => World.frozen?_of_block (a := ⟨Y.ab, o, none⟩) ba
  have kab : k ≠ Y.ab := by
    intro e; rw [e] at hk
    rcases hk with hk | hk <;> rw [h.ta] at hk <;> cases hk
  have hbk : ∀ b, b ≠ Y.ab → (w3.setCell ⟨Y.ab, i * 4 + 2, none⟩ (.slice (some ⟨k, 0, none⟩) n cap')).heap[b]? = w3.heap[b]? := fun b hb => block_setCell hb
  have hN := h.node (w4 := w3.setCell ⟨Y.ab, i * 4 + 2, none⟩ (.slice (some ⟨k, 0, none⟩) n cap')) i { r.nd i with log := (r.nd i).log ++ [(t, st)] } ⟨some ⟨k, 0, none⟩, n, cap'⟩ (Y.vv i) (retag Y.own k (.log i))
    (fun b t hb h1 _ h3 => (hbk b (fun e => by rw [e, h.ta] at hb; injection hb with hb; exact h3 hb.symm)).trans (hu.keep b t hb h1)) (fun b t hb h1 _ => retag_old hk hb h1)
    (fun k hk => (cell_set_ne (hk 2 (by omega))).trans (cA k)) (fun k => by simpa using (fA k).trans (h.fa k)) ((cell_set_ne (by omega)).trans ((cA _).trans (h.n0 i hi))) ((cell_set_ne (by omega)).trans ((cA _).trans (h.n1 i hi))) (cell_set_same ((cA _).trans (h.n2 i hi))) ((cell_set_ne (by omega)).trans ((cA _).trans (h.n3 i hi)))
    ((Owns.of_row ho).frame fun a ha => by simp only [Option.some.injEq] at ha; subst ha; exact hbk _ kab)
    ((h.ov i hi).frame fun a ha => (hbk _ (tag_ne (h.tv i hi a ha) h.ta (by simp))).trans (hu.keep _ _ (h.tv i hi a ha) (by simp)))
    (fun a ha => by simp only [Option.some.injEq] at ha; subst ha; simp [retag]) (fun a ha => retag_old hk (h.tv i hi a ha) (by simp))
    (retag_lt h.lt (by have := hu.size; simpa [World.setCell] using this) (by have := hu.klt; simpa [World.setCell] using this))
  refine ⟨_, ?_, hN, hu.ext ⟨Y.ab, i * 4 + 2, none⟩ h.ta _⟩
  exact ⟨rfl, rfl⟩

theorem RRep.voted {w w3 : World} {Y : RLay} {r : RSt} (h : RRep w Y r) (i t m : Nat) (hi : i ≤ r.parts) {k n cap' : Nat} (hu : Upd w w3 Y.own (.votes i) k)
    (ho : w3.ownsRow 0 43 2 (.slice (some ⟨k, 0, none⟩) n cap') n (recCells ((r.nd i).votes ++ [(t, m)]))) :
    RLeaves Y w (r.setNode i { r.nd i with votes := (r.nd i).votes ++ [(t, m)] }) (w3.setCell ⟨Y.ab, i * 4 + 3, none⟩ (.slice (some ⟨k, 0, none⟩) n cap')) := by
  have hk := hu.tagged
  have ba : w3.heap[Y.ab]? = w.heap[Y.ab]? := hu.keep _ _ h.ta (by simp)
  have cA : ∀ o, w3.cell? ⟨Y.ab, o, none⟩ = w.cell? ⟨Y.ab, o, none⟩ := fun o => World.cell?_of_block (a := ⟨Y.ab, o, none⟩) ba
  have fA : ∀ o, w3.frozen? ⟨Y.ab, o, none⟩ = w.frozen? ⟨Y.ab, o, none⟩ := fun o => World.frozen?_of_block (a := ⟨Y.ab, o, none⟩) ba
  have kab : k ≠ Y.ab := by
    intro e; rw [e] at hk
    rcases hk with hk | hk <;> rw [h.ta] at hk <;> cases hk
  have hbk : ∀ b, b ≠ Y.ab → (w3.setCell ⟨Y.ab, i * 4 + 3, none⟩ (.slice (some ⟨k, 0, none⟩) n cap')).heap[b]? = w3.heap[b]? := fun b hb => block_setCell hb
  have hN := h.node (w4 := w3.setCell ⟨Y.ab, i * 4 + 3, none⟩ (.slice (some ⟨k, 0, none⟩) n cap')) i { r.nd i with votes := (r.nd i).votes ++ [(t, m)] } (Y.lv i) ⟨some ⟨k, 0, none⟩, n, cap'⟩ (retag Y.own k (.votes i))
    (fun b t hb _ h2 h3 => (hbk b (fun e => by rw [e, h.ta] at hb; injection hb with hb; exact h3 hb.symm)).trans (hu.keep b t hb h2)) (fun b t hb _ h2 => retag_old hk hb h2)
    (fun k hk => (cell_set_ne (hk 3 (by omega))).trans (cA k)) (fun k => by simpa using (fA k).trans (h.fa k)) ((cell_set_ne (by omega)).trans ((cA _).trans (h.n0 i hi))) ((cell_set_ne (by omega)).trans ((cA _).trans (h.n1 i hi))) ((cell_set_ne (by omega)).trans ((cA _).trans (h.n2 i hi))) (cell_set_same ((cA _).trans (h.n3 i hi)))
    ((h.ol i hi).frame fun a ha => (hbk _ (tag_ne (h.tl i hi a ha) h.ta (by simp))).trans (hu.keep _ _ (h.tl i hi a ha) (by simp)))
    ((Owns.of_row ho).frame fun a ha => by simp only [Option.some.injEq] at ha; subst ha; exact hbk _ kab)
    (fun a ha => retag_old hk (h.tl i hi a ha) (by simp)) (fun a ha => by simp only [Option.some.injEq] at ha; subst ha; simp [retag])
    (retag_lt h.lt (by have := hu.size; simpa [World.setCell] using this) (by have := hu.klt; simpa [World.setCell] using this))
  refine ⟨_, ?_, hN, hu.ext ⟨Y.ab, i * 4 + 3, none⟩ h.ta _⟩
  exact ⟨rfl, rfl⟩

/-- What is flying has another list of messages. -/
theorem RRep.flown {w w3 : World} {Y : RLay} {r : RSt} (h : RRep w Y r) (ms : List Msg) {k n cap' : Nat} (hu : Upd w w3 Y.own .fly k)
    (ho : w3.ownsRow 0 109 4 (.slice (some ⟨k, 0, none⟩) n cap') n (msgCells ms)) :
    RLeaves Y w { r with fly := ms } (w3.setCell ⟨Y.yb, 2, none⟩ (.slice (some ⟨k, 0, none⟩) n cap')) := by
  have hk := hu.tagged
  have by' : w3.heap[Y.yb]? = w.heap[Y.yb]? := hu.keep _ _ h.ty (by simp)
  have cY : ∀ o, w3.cell? ⟨Y.yb, o, none⟩ = w.cell? ⟨Y.yb, o, none⟩ := fun o => World.cell?_of_block (a := ⟨Y.yb, o, none⟩) by'
  have fY : ∀ o, w3.frozen? ⟨Y.yb, o, none⟩ = w.frozen? ⟨Y.yb, o, none⟩ := fun o => World.frozen?_of_block (a := ⟨Y.yb, o, none⟩) by'
  have kyb : k ≠ Y.yb := by
    intro e; rw [e] at hk
    rcases hk with hk | hk <;> rw [h.ty] at hk <;> cases hk
  have hbk : ∀ b t, Y.own b = some t → t ≠ .fly → b ≠ Y.yb → (w3.setCell ⟨Y.yb, 2, none⟩ (.slice (some ⟨k, 0, none⟩) n cap')).heap[b]? = w.heap[b]? := fun b t hb h1 h2 => (block_setCell h2).trans (hu.keep b t hb h1)
  have aby : Y.ab ≠ Y.yb := tag_ne h.ta h.ty (by simp)
  have ba := hbk _ _ h.ta (by simp) aby
  refine ⟨{ Y with fv := ⟨some ⟨k, 0, none⟩, n, cap'⟩, own := retag Y.own k .fly }, ⟨rfl, rfl⟩, ?_, hu.ext ⟨Y.yb, 2, none⟩ h.ty _⟩
  refine ⟨(cell_set_ne (by omega)).trans ((cY _).trans h.y0), (cell_set_ne (by omega)).trans ((cY _).trans h.y1), cell_set_same ((cY _).trans h.y2), fun o => by simpa using (fY o).trans (h.fy o), h.ac,
    fun i hi => (World.cell?_of_block ba).trans (h.n0 i hi), fun i hi => (World.cell?_of_block ba).trans (h.n1 i hi), fun i hi => (World.cell?_of_block ba).trans (h.n2 i hi), fun i hi => (World.cell?_of_block ba).trans (h.n3 i hi), fun o => (World.frozen?_of_block ba).trans (h.fa o),
    fun i hi => (h.ol i hi).frame fun a ha => hbk _ _ (h.tl i hi a ha) (by simp) (tag_ne (h.tl i hi a ha) h.ty (by simp)), fun i hi => (h.ov i hi).frame fun a ha => hbk _ _ (h.tv i hi a ha) (by simp) (tag_ne (h.tv i hi a ha) h.ty (by simp)),
    h.od.frame fun a ha => hbk _ _ (h.td a ha) (by simp) (tag_ne (h.td a ha) h.ty (by simp)), fun t ht => (h.ow t ht).frame fun a ha => hbk _ _ (h.tw t ht a ha) (by simp) (tag_ne (h.tw t ht a ha) h.ty (by simp)),
    (Owns.of_row ho).frame fun a ha => by simp only [Option.some.injEq] at ha; subst ha; exact block_setCell kyb, retag_old hk h.ty (by simp), retag_old hk h.ta (by simp),
    fun i hi a ha => retag_old hk (h.tl i hi a ha) (by simp), fun i hi a ha => retag_old hk (h.tv i hi a ha) (by simp), fun a ha => retag_old hk (h.td a ha) (by simp), fun t ht a ha => retag_old hk (h.tw t ht a ha) (by simp),
    fun a ha => by simp only [Option.some.injEq] at ha; subst ha; simp [retag], retag_lt h.lt (by have := hu.size; simpa [World.setCell] using this) (by have := hu.klt; simpa [World.setCell] using this)⟩

set_option maxRecDepth 100000 in
set_option maxHeartbeats 1000000 in
theorem refFly_any {w : World} {Y : RLay} {r : RSt} (h : RRep w Y r) (m : Msg) :
    Calls Tryz.prog 145 #[.pointer (some ⟨Y.yb, 0, none⟩), .agg #[.int .i64 m.kind, .int .i64 m.frm, .int .i64 m.to, .int .i64 m.trans]] w fun e w' => e = .returned (.tuple #[]) ∧ RLeaves Y w (r.send m) w' := by
  have cf := h.y2
  have hnb := World.block_lt_of_cell? w _ cf
  have HD := hide (by have := h.om.len; rw [msgCells_length] at this; omega : Y.fv.n = r.fly.length)
  obtain ⟨i0, hi, hz0, hz1, hz2⟩ := info_parts Tryz.infoMsg
  have hR := h.below (below_alloc w (Obj.cells #[.int .i64 m.kind, .int .i64 m.frm, .int .i64 m.to, .int .i64 m.trans] 109))
  by_cases hlt : Y.fv.n < 60
  · have ho := h.om
    go_enter Tryz.func145, Tryz.ntmps145
    go_wp2
    go_region_law (refine step_append_one rfl (.tmp 14) (.tmp 16) 53 rfl 109 i0 (.agg #[.int .i64 0, .int .i64 0, .int .i64 0, .int .i64 0]) 4 32 Tryz.underlying53 hi hz0 hz1 hz2 rfl (by decide) Y.fv.a Y.fv.n Y.fv.cap (msgCells r.fly) rfl (by exact (World.ownsRow.alloc (World.ownsRow.alloc ho _) _)) ⟨w.heap.size + 1, 0, none⟩ 1 [.int .i64 m.kind, .int .i64 m.frm, .int .i64 m.to, .int .i64 m.trans] rfl rfl (by exact new_cells_at _ [.int .i64 m.kind, .int .i64 m.frm, .int .i64 m.to, .int .i64 m.trans] _ _ (by simp)) (fun x hx => by simp at hx; rcases hx with rfl | rfl | rfl | rfl <;> rfl) (by unfold maxLen; omega) (by omega) ?_; intro k cap' w3 g1 g2 g3; have hu := Upd.of_append' h.lt h.tf (((below_alloc _ _).more (below_alloc _ _)).drew) g1 g2 g3; have cf3 := (World.cell?_of_block (a := ⟨Y.yb, 2, none⟩) (hu.keep _ _ h.ty (by simp))).trans cf; have fz3 := (World.frozen?_of_block (a := ⟨Y.yb, 2, none⟩) (hu.keep _ _ h.ty (by simp))).trans (h.fy 2); clear g2 g3)
    all_goals
      go_end0
      refine ⟨rfl, ?_⟩
      have hs : r.send m = { r with fly := r.fly ++ [m] } := by simp [RSt.send, show r.fly.length < 60 from by rw [← unhide HD]; exact hlt]
      rw [hs]
      refine h.flown (r.fly ++ [m]) hu ?_
      rw [msgCells_append]
      exact g1
  · have hfl : ¬ r.fly.length < 60 := by rw [← unhide HD]; exact hlt
    go_enter Tryz.func145, Tryz.ntmps145
    go_wp2
    go_end0
    refine ⟨rfl, Y, ⟨rfl, rfl⟩, ?_, Ext.of_below (below_alloc _ _)⟩
    rw [show r.send m = r from by simp [RSt.send, hfl]]
    exact hR

end Go.Proofs.YtekbjlhbjcikdaaGreat
/-
  accordref's plain model goes along with the program's.
-/
namespace Acc

theorem RSt.send_st (r : RSt) (m : Msg) : (r.send m).st = r.st.send m := rfl
theorem RSt.write_st (r : RSt) (i t st : Nat) : (r.write i t st).st = r.st.write i t st := by
  have hv : ((r.write i t st).nd 0).votes = (r.nd 0).votes := by
    simp only [RSt.write, RSt.setNode]; split
    · rename_i e; rw [e]
    · rfl
  have h1 : (fun n => ((r.write i t st).nd n).log) = (r.st.write i t st).log := by
    funext n
    simp only [RSt.write, RSt.setNode, St.write, RSt.st]; split <;> rfl
  have h2 : (fun n => ((r.write i t st).nd n).up) = fun n => (r.nd n).up := by
    funext n
    simp only [RSt.write, RSt.setNode]; split
    · rename_i e; rw [e]
    · rfl
  have h3 : (fun n => if ((r.write i t st).nd n).fuse < 0 then none else some ((r.write i t st).nd n).fuse.toNat) = fun n => if (r.nd n).fuse < 0 then none else some (r.nd n).fuse.toNat := by
    funext n
    simp only [RSt.write, RSt.setNode]; split
    · rename_i e; rw [e]
    · rfl
  unfold RSt.st
  simp only [hv, h1, h2, h3]
  rfl
theorem RSt.down_st (r : RSt) (i : Nat) : (r.down i).st = r.st.down i := by
  have h1 : (fun n => ((r.down i).nd n).log) = fun n => (r.nd n).log := by
    funext n
    simp only [RSt.down, RSt.setNode]; split
    · rename_i e; rw [e]
    · rfl
  have h2 : (fun n => ((r.down i).nd n).up) = (r.st.down i).up := by
    funext n
    simp only [RSt.down, RSt.setNode, St.down, RSt.st]; split <;> rfl
  have h3 : (fun n => if ((r.down i).nd n).fuse < 0 then none else some ((r.down i).nd n).fuse.toNat) = (r.st.down i).fuse := by
    funext n
    simp only [RSt.down, RSt.setNode, St.down, RSt.st]
    by_cases e : n = i
    · simp [e]
    · simp only [if_neg e]
  have h4 : (fun t m => ((r.down i).nd 0).votes.any (fun v => v.1 == t && v.2 == m)) = (r.st.down i).noted := by
    funext t m
    simp only [RSt.down, RSt.setNode, St.down, RSt.st]
    by_cases e : i = 0
    · simp [e]
    · rw [if_neg (fun h => e h.symm), if_neg e]
  unfold RSt.st
  simp only [h1, h2, h3, h4]
  rfl
theorem RSt.burn_st (r : RSt) (i : Nat) (h0 : (r.nd i).fuse ≠ 0) : (r.burn i).st = r.st.burn i := by
  by_cases hp : 0 < (r.nd i).fuse
  · have e : r.burn i = r.setNode i { r.nd i with fuse := (r.nd i).fuse - 1 } := by unfold RSt.burn; rw [if_pos hp]
    rw [e]
    have h1 : (fun n => ((r.setNode i { r.nd i with fuse := (r.nd i).fuse - 1 }).nd n).log) = fun n => (r.nd n).log := by
      funext n
      simp only [RSt.setNode]; split
      · rename_i e; rw [e]
      · rfl
    have h2 : (fun n => ((r.setNode i { r.nd i with fuse := (r.nd i).fuse - 1 }).nd n).up) = fun n => (r.nd n).up := by
      funext n
      simp only [RSt.setNode]; split
      · rename_i e; rw [e]
      · rfl
    have h4 : (fun t m => ((r.setNode i { r.nd i with fuse := (r.nd i).fuse - 1 }).nd 0).votes.any (fun v => v.1 == t && v.2 == m)) = fun t m => (r.nd 0).votes.any (fun v => v.1 == t && v.2 == m) := by
      funext t m
      simp only [RSt.setNode]; split
      · rename_i e; rw [e]
      · rfl
    have h3 : (fun n => if ((r.setNode i { r.nd i with fuse := (r.nd i).fuse - 1 }).nd n).fuse < 0 then none else some ((r.setNode i { r.nd i with fuse := (r.nd i).fuse - 1 }).nd n).fuse.toNat) = (r.st.burn i).fuse := by
      funext n
      simp only [RSt.setNode, St.burn, RSt.st]
      by_cases e : n = i
      · subst e
        simp only [if_true]
        rw [if_neg (by omega), if_neg (by omega)]
        simp
      · simp only [if_neg e]
    unfold RSt.st
    simp only [h1, h2, h3, h4]
    rfl
  · have e : r.burn i = r := by unfold RSt.burn; rw [if_neg hp]
    rw [e]
    have hn : (r.nd i).fuse < 0 := by omega
    have h3 : (r.st.burn i).fuse = r.st.fuse := by
      funext n
      simp only [St.burn, RSt.st]
      by_cases e : n = i
      · subst e; simp [hn]
      · rw [if_neg e]
    have : r.st.burn i = { r.st with fuse := (r.st.burn i).fuse } := rfl
    rw [this, h3]
theorem RSt.act_st (r : RSt) (i : Nat) (a : Deed) : (r.act i a).st = r.st.act i a := by
  cases a with
  | wrt t st => exact RSt.write_st r i t st
  | snd m => rfl
theorem RSt.fuse_zero (r : RSt) (i : Nat) : r.st.fuse i = some 0 ↔ (r.nd i).fuse = 0 := by
  simp only [RSt.st]
  split
  · constructor
    · intro h; cases h
    · intro h; omega
  · simp; omega
theorem RSt.does_st (r : RSt) (i : Nat) (l : List Deed) : ((r.does i l).1.st, (r.does i l).2) = r.st.does i l := by
  induction l generalizing r with
  | nil => rfl
  | cons a l ih =>
    unfold RSt.does St.does
    by_cases h0 : (r.nd i).fuse = 0
    · rw [if_pos h0, if_pos ((RSt.fuse_zero r i).2 h0)]
      simp only [RSt.down_st]
    · rw [if_neg h0, if_neg (fun h => h0 ((RSt.fuse_zero r i).1 h)), ih, RSt.act_st, RSt.burn_st _ _ h0]
theorem RSt.does_parts (r : RSt) (i : Nat) (l : List Deed) : (r.does i l).1.parts = r.parts := by
  induction l generalizing r with
  | nil => rfl
  | cons a l ih =>
    unfold RSt.does
    split
    · rfl
    · rw [ih]
      have h1 : (r.burn i).parts = r.parts := by unfold RSt.burn; split <;> rfl
      cases a <;> exact h1
end Acc
/-
  accordref: how acts lie in memory.
-/
namespace Go.Proofs.YtekbjlhbjcikdaaGreat
open Go.RowKit Acc

def actCell : Deed → List Value
  | .wrt t st => [.bool false, .int .i64 t, .int .i64 st, .int .i64 0, .int .i64 0, .int .i64 0, .int .i64 0]
  | .snd m => [.bool true, .int .i64 0, .int .i64 0, .int .i64 m.kind, .int .i64 m.frm, .int .i64 m.to, .int .i64 m.trans]
def actCells : List Deed → List Value
  | [] => []
  | x :: r => actCell x ++ actCells r
theorem actCell_length (x : Deed) : (actCell x).length = 7 := by cases x <;> rfl
theorem actCells_length (l : List Deed) : (actCells l).length = l.length * 7 := by
  induction l with
  | nil => rfl
  | cons x r ih => simp [actCells, ih, actCell_length]; omega
theorem actCells_append (a b : List Deed) : actCells (a ++ b) = actCells a ++ actCells b := by
  induction a with
  | nil => rfl
  | cons x r ih => simp [actCells, ih]
theorem actCells_get (l : List Deed) (i : Nat) (x : Deed) (h : l[i]? = some x) (k : Nat) (hk : k < 7) : (actCells l)[i * 7 + k]? = (actCell x)[k]? := by
  induction l generalizing i with
  | nil => simp at h
  | cons y r ih =>
    cases i with
    | zero =>
      simp at h; subst h
      simp only [actCells, Nat.zero_mul, Nat.zero_add]
      rw [List.getElem?_append_left (by rw [actCell_length]; exact hk)]
    | succ i =>
      have := ih i (by simpa using h)
      simp only [actCells]
      rw [List.getElem?_append_right (by rw [actCell_length]; omega), actCell_length, show (i + 1) * 7 + k - 7 = i * 7 + k from by omega]
      exact this

end Go.Proofs.YtekbjlhbjcikdaaGreat
/-
  accordref: walks of down, record, send.
-/
namespace Go.Proofs.YtekbjlhbjcikdaaGreat
open Go.RowKit Acc

theorem RLeaves.refl {w : World} {Y : RLay} {r : RSt} (h : RRep w Y r) : RLeaves Y w r w := ⟨Y, ⟨rfl, rfl⟩, h, Ext.refl _ _⟩
theorem RSt.setNode_twice (r : RSt) (i : Nat) (x y : RNode) : (r.setNode i x).setNode i y = r.setNode i y := by
  unfold RSt.setNode
  congr 1
  funext n
  simp only
  split <;> rfl
theorem RSt.setNode_at (r : RSt) (i : Nat) (x : RNode) : (r.setNode i x).nd i = x := by simp [RSt.setNode]

set_option maxRecDepth 100000 in
set_option maxHeartbeats 1000000 in
theorem refDown_any {w : World} {Y : RLay} {r : RSt} (h : RRep w Y r) (n : Nat) (hn : n ≤ r.parts) (_hp5 : r.parts ≤ 5) :
    Calls Tryz.prog 151 #[.pointer (some ⟨Y.yb, 0, none⟩), .int .i64 n] w fun e w' => e = .returned (.tuple #[]) ∧ RLeaves Y w (r.down n) w' := by
  have y0 := h.y0
  have hac := h.ac
  have n0 := h.n0 n hn
  have n1 := h.n1 n hn
  have n3 := h.n3 n hn
  have fa := h.fa
  have hne : Y.ab ≠ Y.yb := tag_ne h.ta h.ty (by simp)
  go_enter Tryz.func151, Tryz.ntmps151
  go_wp2
  go_end0
  refine ⟨rfl, ?_⟩
  obtain ⟨Y1, he1, hR1, hE1⟩ := h.upped n hn false
  obtain ⟨Y2, he2, hR2, hE2⟩ := hR1.fused n hn (-1)
  have h3 := hR2.unvoted n hn
  rw [he1.2] at hR2 hE2
  rw [he2.2, he1.2] at h3
  rw [RSt.setNode_twice, RSt.setNode_twice, RSt.setNode_at, RSt.setNode_at] at h3
  exact RLeaves.trans he1 hE1 (RLeaves.trans he2 hE2 h3)
end Go.Proofs.YtekbjlhbjcikdaaGreat
