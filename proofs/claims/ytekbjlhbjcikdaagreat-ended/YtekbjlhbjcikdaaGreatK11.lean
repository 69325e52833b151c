/-
  Walk of accordkeep's key.
-/
import Derived.Test.YtekbjlhbjcikdaaGreatK10
namespace Go.Proofs.YtekbjlhbjcikdaaGreat
open Go.RowKit Acc Go.MuLone

/-- The program's inner loops, as functions. -/
def valIn (p k : Int) (c3 : Bool) : List Wr → Int → Int
  | [], v => v
  | x :: r, v => valIn p k c3 r (if c3 = true ∧ x.part = p ∧ x.key = k then x.val else v)
def valRec (s : St) (p k : Int) : List (Nat × Nat) → Int → Int
  | [], v => v
  | x :: r, v => valRec s p k r (valIn p k (x.2 == 3) (s.deal x.1) v)
def holdIn (p k : Int) (t : Nat) (c2 : Bool) : List Wr → Nat × Nat → Nat × Nat
  | [], v => v
  | x :: r, v => holdIn p k t c2 r (if c2 = true ∧ x.part = p ∧ x.key = k then (t, v.2 + 1) else v)
def holdTo (s : St) (p : Nat) (k : Int) : Nat → Nat × Nat
  | 0 => (0, 0)
  | t + 1 => holdIn p k (t + 1) (s.state p (t + 1) == 2) (s.deal (t + 1)) (holdTo s p k t)

theorem valIn_take (p k : Int) (c3 : Bool) (l : List Wr) (v : Int) (i : Nat) (x : Wr) (h : l[i]? = some x) : valIn p k c3 (l.take (i + 1)) v = if c3 = true ∧ x.part = p ∧ x.key = k then x.val else valIn p k c3 (l.take i) v := by
  induction l generalizing i v with
  | nil => simp at h
  | cons y r ih =>
    cases i with
    | zero => simp at h; subst h; simp [valIn]
    | succ i => simp only [List.take_succ_cons, valIn]; exact ih _ i (by simpa using h)
theorem holdIn_take (p k : Int) (t : Nat) (c2 : Bool) (l : List Wr) (v : Nat × Nat) (i : Nat) (x : Wr) (h : l[i]? = some x) : holdIn p k t c2 (l.take (i + 1)) v = if c2 = true ∧ x.part = p ∧ x.key = k then (t, (holdIn p k t c2 (l.take i) v).2 + 1) else holdIn p k t c2 (l.take i) v := by
  induction l generalizing i v with
  | nil => simp at h
  | cons y r ih =>
    cases i with
    | zero => simp at h; subst h; simp [holdIn]
    | succ i => simp only [List.take_succ_cons, holdIn]; exact ih _ i (by simpa using h)
theorem holdIn_le (p k : Int) (t : Nat) (c2 : Bool) (l : List Wr) (v : Nat × Nat) : (holdIn p k t c2 l v).2 ≤ v.2 + l.length := by
  induction l generalizing v with
  | nil => simp [holdIn]
  | cons y r ih =>
    simp only [holdIn, List.length_cons]
    refine Nat.le_trans (ih _) ?_
    split
    · simp only; omega
    · omega
theorem valRec_take (s : St) (p k : Int) (l : List (Nat × Nat)) (v : Int) (i : Nat) (x : Nat × Nat) (h : l[i]? = some x) : valRec s p k (l.take (i + 1)) v = valIn p k (x.2 == 3) (s.deal x.1) (valRec s p k (l.take i) v) := by
  induction l generalizing i v with
  | nil => simp at h
  | cons y r ih =>
    cases i with
    | zero => simp at h; subst h; simp [valRec]
    | succ i => simp only [List.take_succ_cons, valRec]; exact ih _ i (by simpa using h)

theorem valIn_none (p k : Int) (c3 : Bool) (l : List Wr) (v : Int) (h : ∀ x, x ∈ l → x.part ≠ p) : valIn p k c3 l v = v := by
  induction l generalizing v with
  | nil => rfl
  | cons y r ih => simp only [valIn]; rw [if_neg (fun e => h y (by simp) e.2.1)]; exact ih v (fun x hx => h x (by simp [hx]))
theorem valIn_find (p k : Int) (l : List Wr) (v : Int) (h : l.Pairwise (fun a b => a.part ≠ b.part)) : valIn p k true l v = (findW l p k).getD v ∧ valIn p k false l v = v := by
  induction l generalizing v with
  | nil => exact ⟨rfl, rfl⟩
  | cons y r ih =>
    have hr := (List.pairwise_cons.1 h).2
    have hy := (List.pairwise_cons.1 h).1
    refine ⟨?_, ?_⟩
    · simp only [valIn, findW, true_and]
      by_cases e : y.part = p ∧ y.key = k
      · rw [if_pos e, if_pos e]
        rw [valIn_none p k true r _ (fun x hx e2 => hy x hx (e.1.trans e2.symm))]
        rfl
      · rw [if_neg e, if_neg e]; exact (ih v hr).1
    · simp only [valIn]; rw [if_neg (by simp)]; exact (ih v hr).2
theorem holdIn_none (p k : Int) (t : Nat) (c2 : Bool) (l : List Wr) (v : Nat × Nat) (h : ∀ x, x ∈ l → x.part ≠ p) : holdIn p k t c2 l v = v := by
  induction l generalizing v with
  | nil => rfl
  | cons y r ih => simp only [holdIn]; rw [if_neg (fun e => h y (by simp) e.2.1)]; exact ih v (fun x hx => h x (by simp [hx]))
theorem holdIn_find (p k : Int) (t : Nat) (l : List Wr) (v : Nat × Nat) (h : l.Pairwise (fun a b => a.part ≠ b.part)) : holdIn p k t true l v = (if (findW l p k).isSome = true then (t, v.2 + 1) else v) ∧ holdIn p k t false l v = v := by
  induction l generalizing v with
  | nil => exact ⟨rfl, rfl⟩
  | cons y r ih =>
    have hr := (List.pairwise_cons.1 h).2
    have hy := (List.pairwise_cons.1 h).1
    refine ⟨?_, ?_⟩
    · by_cases e : y.part = p ∧ y.key = k
      · have e2 : findW (y :: r) p k = some y.val := by simp only [findW]; rw [if_pos e]
        simp only [holdIn, true_and]
        rw [if_pos e, e2]
        rw [holdIn_none p k t true r _ (fun x hx e2 => hy x hx (e.1.trans e2.symm))]
        simp
      · have e2 : findW (y :: r) p k = findW r p k := by simp only [findW]; rw [if_neg e]
        simp only [holdIn, true_and]
        rw [if_neg e, e2]; exact (ih v hr).1
    · simp only [holdIn]; rw [if_neg (by simp)]; exact (ih v hr).2

/-- The writes that accordkeep lays. -/
def Fit (s : St) : Prop := ∀ ws, ws ∈ s.deals → WFit ws
theorem Fit.deal {s : St} (h : Fit s) (t : Nat) : (s.deal t).Pairwise (fun a b => a.part ≠ b.part) := by
  unfold St.deal
  rw [List.getD_eq_getElem?_getD]
  cases hd : s.deals[t - 1]? with
  | none => simp
  | some ws => exact (h ws (List.mem_of_getElem? hd)).dis

theorem valRec_value {s : St} (h : Fit s) (p k : Int) (l : List (Nat × Nat)) (v : Int) : valRec s p k l v = l.foldl (valStep s p k) v := by
  induction l generalizing v with
  | nil => rfl
  | cons x r ih =>
    simp only [valRec, List.foldl_cons]
    rw [ih]
    congr 1
    unfold valStep
    by_cases e : x.2 = 3
    · rw [if_pos e, show (x.2 == 3) = true from by simpa using e]; exact (valIn_find p k _ v (h.deal x.1)).1
    · rw [if_neg e, show (x.2 == 3) = false from by simpa using e]; exact (valIn_find p k _ v (h.deal x.1)).2
theorem holdTo_step {s : St} (h : Fit s) (p : Nat) (k : Int) (t : Nat) : holdTo s p k (t + 1) = if s.holds p k (t + 1) = true then (t + 1, (holdTo s p k t).2 + 1) else holdTo s p k t := by
  simp only [holdTo]
  unfold St.holds
  by_cases e : s.state p (t + 1) = 2
  · rw [show (s.state p (t + 1) == 2) = true from by simpa using e]
    rw [(holdIn_find p k (t + 1) _ _ (h.deal (t + 1))).1]
    simp [e]
  · rw [show (s.state p (t + 1) == 2) = false from by simpa using e]
    rw [(holdIn_find p k (t + 1) _ _ (h.deal (t + 1))).2]
    simp [e]
theorem holds_one {s : St} (hi : Inv s) (p : Nat) (k : Int) (hp : 1 ≤ p) (t t' : Nat) (h : s.holds p k t = true) (h' : s.holds p k t' = true) : t = t' := by
  unfold St.holds at h h'
  simp only [Bool.and_eq_true, decide_eq_true_eq] at h h'
  exact hi.exc p t t' k hp ((hi.h2).1 h.1) ((hi.h2).1 h'.1) h.2 h'.2
theorem holdFrom_hit (s : St) (p : Nat) (k : Int) (n t t0 : Nat) (h : ∀ t', s.holds p k t' = true → t' = t0) (h0 : s.holds p k t0 = true) (h1 : t ≤ t0) (h2 : t0 < t + n) : holdFrom s p k n t = t0 := by
  induction n generalizing t with
  | zero => omega
  | succ n ih =>
    simp only [holdFrom]
    split
    · rename_i hh; exact h t hh
    · rename_i hh
      by_cases e : t = t0
      · subst e; exact absurd h0 hh
      · exact ih (t + 1) (by omega) (by omega)
theorem holdFrom_miss (s : St) (p : Nat) (k : Int) (n t : Nat) (h : ∀ t', t ≤ t' → t' < t + n → s.holds p k t' = false) : holdFrom s p k n t = 0 := by
  induction n generalizing t with
  | zero => rfl
  | succ n ih =>
    simp only [holdFrom]
    rw [if_neg (by rw [h t (by omega) (by omega)]; simp)]
    exact ih (t + 1) (fun t' h1 h2 => h t' (by omega) (by omega))
theorem holdTo_le {s : St} (h : Fit s) (hi : Inv s) (p : Nat) (k : Int) (hp : 1 ≤ p) (T : Nat) : (holdTo s p k T).2 ≤ 1 := by
  have key : ∀ T, ((∀ t, 1 ≤ t → t ≤ T → s.holds p k t = false) ∧ holdTo s p k T = (0, 0)) ∨ ∃ t0, 1 ≤ t0 ∧ t0 ≤ T ∧ s.holds p k t0 = true ∧ holdTo s p k T = (t0, 1) := by
    intro T
    induction T with
    | zero => exact .inl ⟨fun t h1 h2 => by omega, rfl⟩
    | succ T ih =>
      rw [holdTo_step h]
      rcases ih with ⟨h1, h2⟩ | ⟨t0, h1, h2, h3, h4⟩
      · cases hh : s.holds p k (T + 1) with
        | true => exact .inr ⟨T + 1, by omega, by omega, hh, by rw [if_pos rfl, h2]⟩
        | false =>
          refine .inl ⟨fun t q1 q2 => ?_, by rw [if_neg (by simp)]; exact h2⟩
          by_cases e : t = T + 1
          · rw [e]; exact hh
          · exact h1 t q1 (by omega)
      · cases hh : s.holds p k (T + 1) with
        | true => have := holds_one hi p k hp _ _ h3 hh; omega
        | false => exact .inr ⟨t0, h1, by omega, h3, by rw [if_neg (by simp)]; exact h4⟩
  rcases key T with ⟨_, h2⟩ | ⟨t0, _, _, _, h4⟩
  · rw [h2]; simp
  · rw [h4]; simp
/-- What the program's loop finds: the holder, and one at most. -/
theorem holdTo_holder {s : St} (h : Fit s) (hi : Inv s) (p : Nat) (k : Int) (hp : 1 ≤ p) : (holdTo s p k s.deals.length).1 = s.holder p k ∧ (holdTo s p k s.deals.length).2 ≤ 1 := by
  have key : ∀ T, ((∀ t, 1 ≤ t → t ≤ T → s.holds p k t = false) ∧ holdTo s p k T = (0, 0)) ∨ ∃ t0, 1 ≤ t0 ∧ t0 ≤ T ∧ s.holds p k t0 = true ∧ holdTo s p k T = (t0, 1) := by
    intro T
    induction T with
    | zero => exact .inl ⟨fun t h1 h2 => by omega, rfl⟩
    | succ T ih =>
      rw [holdTo_step h]
      rcases ih with ⟨h1, h2⟩ | ⟨t0, h1, h2, h3, h4⟩
      · cases hh : s.holds p k (T + 1) with
        | true => exact .inr ⟨T + 1, by omega, by omega, hh, by rw [if_pos rfl, h2]⟩
        | false =>
          refine .inl ⟨fun t q1 q2 => ?_, by rw [if_neg (by simp)]; exact h2⟩
          by_cases e : t = T + 1
          · rw [e]; exact hh
          · exact h1 t q1 (by omega)
      · cases hh : s.holds p k (T + 1) with
        | true => have := holds_one hi p k hp _ _ h3 hh; omega
        | false => exact .inr ⟨t0, h1, by omega, h3, by rw [if_neg (by simp)]; exact h4⟩
  unfold St.holder
  rcases key s.deals.length with ⟨h1, h2⟩ | ⟨t0, h1, h2, h3, h4⟩
  · rw [h2]
    exact ⟨(holdFrom_miss s p k _ 1 (fun t' q1 q2 => h1 t' q1 (by omega))).symm, by simp⟩
  · rw [h4]
    exact ⟨(holdFrom_hit s p k _ 1 t0 (fun t' ht => holds_one hi p k hp _ _ ht h3) h3 h1 (by omega)).symm, by simp⟩

set_option maxRecDepth 100000 in
set_option maxHeartbeats 4000000 in
theorem key_any {o : Nat → Option Unit} {w0 w1 : World} {rb wb : Nat} {s : St} (h : Kt o w0 rb wb w1 s) (hfit : Fit s) (p k : Nat) (hp1 : 1 ≤ p) (hp3 : p ≤ 3) (hk : k < 4) :
    Calls Tryz.prog 21 #[.pointer (some ⟨rb, 0, none⟩), .int .i64 p, .int .i64 k] w1 fun e w' => e = .returned (.bool true) ∧ Kt o w0 rb wb w' s := by
  have r0 := h.cells.1
  have hok := h.ok
  have hlen := hok.1.inv.len p
  have hlg := log_kt h (p : Int)
  have hl0 : s.logP p = (s.log p, 0) := by unfold St.logP; rw [if_pos (by rw [hok.2]; omega)]; simp
  rw [hl0] at hlg
  have HLG := hide hlg
  clear hlg hl0
  go_enter Tryz.func21, Tryz.ntmps21
  go_wp2_with fail
  refine (unhide HLG).mono ?_
  rintro e w2 ⟨a, cap, rfl, h2, ho, _⟩
  have ho2 := Owns.of_row (ownsRow_mono ho (Nat.zero_le _))
  have hlt : ∀ x, x ∈ s.log p → 1 ≤ x.1 ∧ x.1 ≤ s.deals.length := hok.1.inv.logs p
  have HLT := hide hlt
  have HFIT := hide hfit
  have HW6 := hide (fun t => hok.1.inv.wf.w6 t)
  clear hlt hfit ho HLG
  go_wp2_with fail
  go_loopw [9, 10] (fun v i wr => ∃ j : Nat, j ≤ (s.log p).length ∧ i = .int .i64 (j : Int) ∧ v = .int .i64 (valRec s p k ((s.log p).take j) 0) ∧ Below w2.heap.size w2 wr) (fun _ i _ => (s.log p).length - (intOf i).toNat)
  case atStart => exact ⟨0, by omega, rfl, rfl, Below.refl _ _⟩
  case round =>
    obtain ⟨j, hj, rfl, rfl, hb3⟩ := hrel
    have h3 := h2.below hb3
    have ho3 : Owns wr 43 2 ⟨a, (s.log p).length, cap⟩ (recCells (s.log p)) := ownsRow_below ho2 hb3
    by_cases hjl : j < (s.log p).length
    · have hx : (s.log p)[j]? = some (s.log p)[j] := List.getElem?_eq_getElem _
      generalize (s.log p)[j] = x at hx
      have hxr := unhide HLT x (List.mem_of_getElem? hx)
      have HTK := hide (valRec_take s p k (s.log p) 0 j x hx)
      obtain ⟨g, ha, hcap, _, hc⟩ := ho3.at (by simp; omega)
      simp only at ha hcap
      subst ha
      obtain ⟨c0, c1⟩ := recCells_get (s.log p) j x hx
      have c0 := hc _ _ c0
      have c1 := hc _ _ c1
      rw [show 2 * j = j * 2 from by omega] at c0 c1
      obtain ⟨t1, ht1⟩ : ∃ t1, x.1 = t1 + 1 := ⟨x.1 - 1, by omega⟩
      obtain ⟨g3, c3, a3, n3, cap3, rt3, hcc, rg3, hn3, hw3⟩ := h3.tran t1 (by omega)
      have hw6 := unhide HW6 t1
      have hdeal : s.deal x.1 = s.deals.getD t1 [] := by unfold St.deal; rw [ht1]; rfl
      rw [hdeal] at HTK
      have ht1D : t1 < s.deals.length := by omega
      rw [ht1, show (((t1 + 1 : Nat) : Int)) = (t1 : Int) + 1 from by omega] at c0
      obtain ⟨x1, x2⟩ := x
      simp only at ht1 c0 c1 HTK hdeal hxr
      clear hdeal hc hx hxr ht1
      generalize s.deals.getD t1 [] = ws at *
      subst hn3
      generalize hv0 : valRec s p k ((s.log p).take j) 0 = v0 at *
      have r03 := h3.cells.1
      have qle : ¬ ((s.deals.length : Int) < (t1 : Int) + 1) := by omega
      clear hv0
      have q1 : ¬ ((t1 : Int) + 1 < 1) := by omega
      have hsl : s.deals.length ≤ 12 := hok.1.inv.d12
      have ht1i : (t1 : Int) < (s.deals.length : Int) := by omega
      have ht1j : (t1 : Int) ≤ 11 := by omega
      go_wp2_with fail
      go_region_held3 (fun w' => w'.cell? ⟨g, j * 2, none⟩ = some (.int .i64 ((t1 : Int) + 1)) ∧ w'.cell? ⟨rb, 1, none⟩ = some (.slice (some ⟨g3, 0, none⟩) s.deals.length c3)) (go_keep) (fail)
      go_wp2_with fail
      go_region
      go_wp2_with fail
      have hgl := World.block_lt_of_cell? wr _ c1
      have HCB := hide (fun wq (hbq : Below wr.heap.size wr wq) => (hbq.cell (p := ⟨g, j * 2 + 1, none⟩) hgl).trans c1)
      have HWB := hide (fun wq (hbq : Below wr.heap.size wr wq) => hw3.below hbq)
      clear hgl
      go_loopw [9, 12] (fun v i wq => ∃ q : Nat, q ≤ ws.length ∧ i = .int .i64 (q : Int) ∧ v = .int .i64 (valIn p k (x2 == 3) (ws.take q) v0) ∧ Below wr.heap.size wr wq) (fun _ i _ => ws.length - (intOf i).toNat)
      case atStart => exact ⟨0, by omega, rfl, rfl, (Below.refl _ _).drew.drew⟩
      case round =>
        obtain ⟨q, hq, rfl, rfl, hbq⟩ := hrel
        by_cases hql : q < ws.length
        · have hy : ws[q]? = some ws[q] := List.getElem?_eq_getElem _
          generalize ws[q] = y at hy
          have HYK := hide (valIn_take p k (x2 == 3) ws v0 q y hy)
          have hw4 := unhide HWB _ hbq
          rcases hw4 with hw4 | ⟨g4, o4, rfl, hg4, hc4⟩
          · rw [hw4] at hy; simp at hy
          obtain ⟨d0, d1, d2⟩ := hc4 q y hy
          have e1 := unhide HCB _ hbq
          clear hc4 hy
          generalize valIn p k (x2 == 3) (ws.take q) v0 = vq at *
          by_cases e3 : x2 = 3
          · have q3 : ((x2 : Int) == 3) = true := by rw [e3]; rfl
            by_cases ep : y.part = p
            · have qp : (y.part == (p : Int)) = true := by rw [ep]; simp
              by_cases ek : y.key = k
              · have qk : (y.key == (k : Int)) = true := by rw [ek]; simp
                have HE := hide (And.intro (show (x2 == 3) = true by rw [e3]; rfl) (And.intro ep ek))
                clear e3 ep ek
                go_wp2
                refine ⟨⟨q + 1, by omega, by go_num, ?_, hbq⟩, by simp [intOf]; omega⟩
                rw [unhide HYK, if_pos (unhide HE)]
              · have qk : (y.key == (k : Int)) = false := by rw [beq_eq_false_iff_ne]; exact ek
                have HE := hide ek
                clear e3 ep ek
                go_wp2
                refine ⟨⟨q + 1, by omega, by go_num, ?_, hbq⟩, by simp [intOf]; omega⟩
                rw [unhide HYK, if_neg (fun e => unhide HE e.2.2)]
            · have qp : (y.part == (p : Int)) = false := by rw [beq_eq_false_iff_ne]; exact ep
              have HE := hide ep
              clear e3 ep
              go_wp2
              refine ⟨⟨q + 1, by omega, by go_num, ?_, hbq⟩, by simp [intOf]; omega⟩
              rw [unhide HYK, if_neg (fun e => unhide HE e.2.1)]
          · have q3 : ((x2 : Int) == 3) = false := by rw [beq_eq_false_iff_ne]; omega
            have HE := hide e3
            clear e3
            go_wp2
            refine ⟨⟨q + 1, by omega, by go_num, ?_, hbq⟩, by simp [intOf]; omega⟩
            rw [unhide HYK, if_neg (fun e => unhide HE (by simpa using e.1))]
        · have hfull : ws.take q = ws := List.take_of_length_le (by omega)
          have hqi : ¬ (q : Int) < (ws.length : Int) := by omega
          have HB2 := hide (hb3.more hbq)
          have HTQ := hide hfull
          clear hql hfull
          go_wp2
          refine ⟨⟨j + 1, by omega, by go_num, ?_, unhide HB2⟩, by simp [intOf]; omega⟩
          rw [unhide HTK, unhide HTQ]
    · have hfull : (s.log p).take j = s.log p := List.take_of_length_le (by omega)
      have hji : ¬ (j : Int) < ((s.log p).length : Int) := by omega
      rw [hfull, valRec_value (unhide HFIT)]
      have hval : (s.log p).foldl (valStep s p k) 0 = s.value p k := rfl
      rw [hval]
      clear hjl hfull hval
      have hmax : Hid (∀ T, T ≤ s.deals.length → (holdTo s p k T).2 ≤ 1) := hide (fun T _ => holdTo_le (unhide HFIT) hok.1.inv p k hp1 T)
      have h12 := hok.1.inv.d12
      go_wp2_with fail
      go_loopw [13, 14, 15] (fun hh cc i wq => ∃ T : Nat, T ≤ s.deals.length ∧ i = .int .i64 ((T : Int) + 1) ∧ hh = .int .i64 ((holdTo s p k T).1 : Nat) ∧ cc = .int .i64 ((holdTo s p k T).2 : Nat) ∧ Kt o w0 rb wb wq s) (fun _ _ i _ => (13 - intOf i).toNat)
      case atStart => exact ⟨0, Nat.zero_le _, rfl, rfl, rfl, h3⟩
      case round =>
        obtain ⟨T, hT, rfl, rfl, rfl, hKq⟩ := hrel
        obtain ⟨rq0, aq, cq, rq1⟩ := hKq.cells
        by_cases hTl : T < s.deals.length
        · have hst := state_kt hKq (p : Int) ((T + 1 : Nat) : Int)
          have hs0 : s.stateP p ((T + 1 : Nat) : Int) = (s.state p (T + 1), 0) := by unfold St.stateP; rw [if_pos (by rw [hok.2]; omega)]; simp
          rw [hs0] at hst
          have HST := hide hst
          have hTi : (T : Int) + 1 ≤ (s.deals.length : Int) := by omega
          clear hst hs0
          go_wp2_with fail
          rw [show ((T : Int) + 1) = ((T + 1 : Nat) : Int) from by omega]
          refine (unhide HST).mono ?_
          rintro e w5 ⟨rfl, hK5⟩
          obtain ⟨g5, c5, a5, n5, cap5, rt5, hcc5, rg5, hn5, hw5⟩ := hK5.tran T hTl
          have hw6 := unhide HW6 T
          have hdeal : s.deal (T + 1) = s.deals.getD T [] := rfl
          have HTO := hide (show holdTo s p k (T + 1) = holdIn p k (T + 1) (s.state p (T + 1) == 2) (s.deals.getD T []) (holdTo s p k T) from rfl)
          generalize s.deals.getD T [] = ws at *
          subst hn5
          generalize hst5 : s.state p (T + 1) = st at *
          have hc1 := unhide hmax T hT
          generalize hhT : holdTo s p k T = hc0 at *
          have HH := hide (And.intro hst5 hhT)
          clear hst5 hhT hdeal
          have HKB := hide (fun wq (hb : Below w5.heap.size w5 wq) => hK5.below hb)
          have hg5l := World.block_lt_of_cell? w5 _ rg5
          have hrbl := World.block_lt_of_cell? w5 _ rt5
          have HC5 := hide (fun wq (hb : Below w5.heap.size w5 wq) => And.intro ((hb.cell (p := ⟨rb, 1, none⟩) hrbl).trans rt5) ((hb.cell (p := ⟨g5, T, none⟩) hg5l).trans rg5))
          have HW5 := hide (fun wq (hb : Below w5.heap.size w5 wq) => hw5.below hb)
          clear hw5 hg5l hrbl
          go_wp2_with fail
          go_loopw [13, 14, 18] (fun hh cc i wq => ∃ q : Nat, q ≤ ws.length ∧ i = .int .i64 (q : Int) ∧ hh = .int .i64 ((holdIn p k (T + 1) (st == 2) (ws.take q) hc0).1 : Nat) ∧ cc = .int .i64 ((holdIn p k (T + 1) (st == 2) (ws.take q) hc0).2 : Nat) ∧ Below w5.heap.size w5 wq) (fun _ _ i _ => ws.length - (intOf i).toNat)
          case atStart => exact ⟨0, by omega, rfl, rfl, rfl, Below.refl _ _⟩
          case round =>
            obtain ⟨q, hq, rfl, rfl, rfl, hbq⟩ := hrel
            obtain ⟨f1, f2⟩ := unhide HC5 _ hbq
            by_cases hql : q < ws.length
            · have hy : ws[q]? = some ws[q] := List.getElem?_eq_getElem _
              generalize ws[q] = y at hy
              have HYK := hide (holdIn_take p k (T + 1) (st == 2) ws hc0 q y hy)
              have hw4 := unhide HW5 _ hbq
              rcases hw4 with hw4 | ⟨g4, o4, rfl, hg4, hc4⟩
              · rw [hw4] at hy; simp at hy
              obtain ⟨d0, d1, d2⟩ := hc4 q y hy
              clear hc4 hy
              have hcb : (holdIn p k (T + 1) (st == 2) (ws.take q) hc0).2 ≤ 7 := by
                refine Nat.le_trans (holdIn_le _ _ _ _ _ _) ?_
                rw [List.length_take]; omega
              generalize holdIn p k (T + 1) (st == 2) (ws.take q) hc0 = hcq at *
              have HBN := hide (fun (o : Obj) => hbq.more (below_alloc _ o))
              by_cases e3 : st = 2
              · have q3 : ((st : Int) == 2) = true := by rw [e3]; rfl
                have E3 := hide e3
                clear e3
                by_cases ep : y.part = p
                · have qp : (y.part == (p : Int)) = true := by rw [ep]; simp
                  by_cases ek : y.key = k
                  · have qk : (y.key == (k : Int)) = true := by rw [ek]; simp
                    have HE := hide (And.intro (show (st == 2) = true by rw [unhide E3]; rfl) (And.intro ep ek))
                    clear ep ek
                    go_wp2
                    refine ⟨⟨q + 1, by omega, by go_num, ?_, ?_, unhide HBN _⟩, by simp [intOf]; omega⟩
                    · rw [unhide HYK, if_pos (unhide HE)]; rfl
                    · rw [unhide HYK, if_pos (unhide HE)]; rfl
                  · have qk : (y.key == (k : Int)) = false := by rw [beq_eq_false_iff_ne]; exact ek
                    have HE := hide ek
                    clear ep ek
                    go_wp2
                    refine ⟨⟨q + 1, by omega, by go_num, ?_, ?_, unhide HBN _⟩, by simp [intOf]; omega⟩
                    · rw [unhide HYK, if_neg (fun e => unhide HE e.2.2)]
                    · rw [unhide HYK, if_neg (fun e => unhide HE e.2.2)]
                · have qp : (y.part == (p : Int)) = false := by rw [beq_eq_false_iff_ne]; exact ep
                  have HE := hide ep
                  clear ep
                  go_wp2
                  refine ⟨⟨q + 1, by omega, by go_num, ?_, ?_, unhide HBN _⟩, by simp [intOf]; omega⟩
                  · rw [unhide HYK, if_neg (fun e => unhide HE e.2.1)]
                  · rw [unhide HYK, if_neg (fun e => unhide HE e.2.1)]
              · have q3 : ((st : Int) == 2) = false := by rw [beq_eq_false_iff_ne]; omega
                have HE := hide e3
                clear e3
                go_wp2
                refine ⟨⟨q + 1, by omega, by go_num, ?_, ?_, unhide HBN _⟩, by simp [intOf]; omega⟩
                · rw [unhide HYK, if_neg (fun e => unhide HE (by simpa using e.1))]
                · rw [unhide HYK, if_neg (fun e => unhide HE (by simpa using e.1))]
            · have hfull : ws.take q = ws := List.take_of_length_le (by omega)
              have hqi : ¬ (q : Int) < (ws.length : Int) := by omega
              have HKQ := hide (unhide HKB _ hbq)
              have HTQ := hide hfull
              clear hql hfull
              go_wp2
              refine ⟨⟨T + 1, by omega, by go_num, ?_, ?_, unhide HKQ⟩, by simp [intOf]; omega⟩
              · rw [unhide HTO, unhide HTQ]
              · rw [unhide HTO, unhide HTQ]
        · have hTi : ¬ (T : Int) + 1 ≤ (s.deals.length : Int) := by omega
          have hTe : T = s.deals.length := by omega
          have hfin := holdTo_holder (unhide HFIT) hok.1.inv p k hp1
          have hvl := value_kt hKq (p : Int) (k : Int)
          have hv0 : s.valueP p k = (s.value p k, 0) := by unfold St.valueP; rw [if_pos (by unfold St.keyOk; rw [hok.2]; omega)]; simp
          rw [hv0] at hvl
          have HVL := hide hvl
          have HHF := hide hfin
          rw [hTe]
          clear hvl hv0 hfin hTe hTl hT
          go_wp2_with fail
          refine (unhide HVL).mono ?_
          rintro e w6 ⟨rfl, hK6⟩
          have r60 := hK6.cells.1
          have hhl := holder_kt hK6 (p : Int) (k : Int)
          have hh0 : s.holderP p k = (s.holder p k, 0) := by unfold St.holderP; rw [if_pos (by unfold St.keyOk; rw [hok.2]; omega)]; simp
          rw [hh0] at hhl
          have HHL := hide hhl
          clear hhl hh0
          go_wp2_with fail
          refine (unhide HHL).mono ?_
          rintro e w7 ⟨rfl, hK7⟩
          rw [(unhide HHF).1]
          have hle1 : ((holdTo s p k s.deals.length).2 : Int) ≤ 1 := by have := (unhide HHF).2; omega
          go_wp2
          go_ret
          exact ⟨by simp, hK7⟩
end Go.Proofs.YtekbjlhbjcikdaaGreat
