/-
  Facts on the writes that accordkeep lays; walks of fresh and begun.
-/
import Derived.Test.YtekbjlhbjcikdaaGreatK2
import Derived.Test.YtekbjlhbjcikdaaGreatCalm
namespace Go.Proofs.YtekbjlhbjcikdaaGreat
open Go.RowKit Acc Go.MuLone

structure WFit (l : List Wr) : Prop where
  part : ∀ x, x ∈ l → 1 ≤ x.part ∧ x.part ≤ 3
  key : ∀ x, x ∈ l → 0 ≤ x.key ∧ x.key < 2
  val : ∀ x, x ∈ l → 0 ≤ x.val ∧ x.val ≤ 100000
  dis : l.Pairwise (fun a b => a.part ≠ b.part)

theorem WFit.add {l : List Wr} (h : WFit l) (x : Wr) (h1 : 1 ≤ x.part ∧ x.part ≤ 3) (h2 : 0 ≤ x.key ∧ x.key < 2) (h3 : 0 ≤ x.val ∧ x.val ≤ 100000) : WFit (addW l x) := by
  unfold addW
  split
  · exact h
  · rename_i hp
    refine ⟨?_, ?_, ?_, ?_⟩
    · intro y hy
      rcases List.mem_append.1 hy with hy | hy
      · exact h.part y hy
      · simp at hy; subst hy; exact h1
    · intro y hy
      rcases List.mem_append.1 hy with hy | hy
      · exact h.key y hy
      · simp at hy; subst hy; exact h2
    · intro y hy
      rcases List.mem_append.1 hy with hy | hy
      · exact h.val y hy
      · simp at hy; subst hy; exact h3
    · rw [List.pairwise_append]
      refine ⟨h.dis, by simp, ?_⟩
      intro a ha b hb e
      simp at hb
      subst hb
      exact hp ((hasPart_iff l b.part).2 ⟨a, ha, e⟩)

theorem wx_fit (r A : Int) : (1 ≤ (wx r A).part ∧ (wx r A).part ≤ 3) ∧ (0 ≤ (wx r A).key ∧ (wx r A).key < 2) ∧ (0 ≤ (wx r A).val ∧ (wx r A).val ≤ 100000) := by
  have r1 := pickI_range r 3 (by omega)
  have r2 := pickI_range (r.tdiv 3) 2 (by omega)
  have r3 := pickI_range A 1000 (by omega)
  simp only [wx]; omega
theorem writesOf_fit (A B C : Int) : WFit (writesOf A B C) := by
  have h0 : WFit (writes0 A C) := by
    have r1 := pickI_range A 3 (by omega)
    have r2 := pickI_range (A.tdiv 3) 2 (by omega)
    have r3 := pickI_range C 1000 (by omega)
    refine ⟨?_, ?_, ?_, by simp [writes0]⟩ <;> intro x hx <;> simp [writes0] at hx <;> subst hx <;> simp <;> omega
  have h1 := h0.add (wx B A) (wx_fit B A).1 (wx_fit B A).2.1 (wx_fit B A).2.2
  exact h1.add (wx C A) (wx_fit C A).1 (wx_fit C A).2.1 (wx_fit C A).2.2
theorem writesOf_len (A B C : Int) : (writesOf A B C).length ≤ 3 ∧ 1 ≤ (writesOf A B C).length := writesTo_len A B C 2 (by omega)

theorem findI_neg (l : List Wr) (p k : Int) (h : ∀ x, x ∈ l → x.part ≠ p) : ∀ i, findI l p k i = -1 := by
  induction l with
  | nil => intro i; rfl
  | cons a r ih =>
    intro i
    simp only [findI]
    rw [if_neg (fun hh => h a (by simp) hh.1)]
    exact ih (fun x hx => h x (by simp [hx])) _

theorem WFit.sound {l : List Wr} (h : WFit l) (h1 : 1 ≤ l.length) (h6 : l.length ≤ 6) (parts : Nat) (hp : 3 ≤ parts) : soundB l parts = true := by
  unfold soundB
  have : (List.range l.length).all (okAt l parts) = true := by
    rw [List.all_eq_true]
    intro i hi
    have hil : i < l.length := by simpa using hi
    have hx : l[i]? = some l[i] := List.getElem?_eq_getElem _
    have hm : l[i] ∈ l := List.getElem_mem hil
    have hpt := h.part _ hm
    have hk := h.key _ hm
    have hf : findI (l.take i) l[i].part l[i].key 0 = -1 := by
      refine findI_neg _ _ _ ?_ 0
      intro y hy
      have hd := h.dis
      rw [← List.take_append_drop i l, List.pairwise_append] at hd
      have hdi : l[i] ∈ l.drop i := List.mem_of_getElem? (i := 0) (by rw [List.getElem?_drop]; simp)
      exact hd.2.2 y hy _ hdi
    simp only [okAt, hx, hf]
    simp
    omega
  rw [this]
  simp
  omega

theorem WFit.mem3 {l : List Wr} (h : WFit l) (m : Nat) (hm : m ∈ members l) : 1 ≤ m ∧ m ≤ 3 := by
  obtain ⟨h1, _, h3⟩ := (membersTo_mem l 5 m).1 hm
  obtain ⟨x, hx, e⟩ := (hasPart_iff l m).1 h3
  have := h.part x hx
  omega
theorem WFit.memOf {l : List Wr} (h : WFit l) (x : Wr) (hx : x ∈ l) : ∃ m : Nat, x.part = m ∧ m ∈ members l := by
  have hp := h.part x hx
  refine ⟨x.part.toNat, by omega, ?_⟩
  refine (membersTo_mem l 5 _).2 ⟨by omega, by omega, ?_⟩
  rw [hasPart_iff]
  exact ⟨x, hx, by omega⟩

/-- All that the world owns is newer than w. -/
def Fresh (w : World) (L : Lay) : Prop := ∀ b, b < w.heap.size → own2 L b = none
theorem Fresh.of {w : World} {L : Lay} (h : ∀ b t, own2 L b = some t → w.heap.size ≤ b) : Fresh w L := by
  intro b hb
  cases ho : own2 L b with
  | none => rfl
  | some t => have := h b t ho; omega
theorem Fresh.step {w w1 w2 : World} {L L' : Lay} (h : Fresh w L) (he : Ext (own2 L) w1 (own2 L') w2) (hs : w.heap.size ≤ w1.heap.size) : Fresh w L' ∧ Below w.heap.size w1 w2 :=
  ⟨fun b hb => (he.keep b (by omega) (h b hb)).2, he.os, he.tape, he.output, he.size, fun b hb => (he.keep b (by omega) (h b hb)).1⟩
set_option maxRecDepth 100000 in
set_option maxHeartbeats 1000000 in
theorem fresh_any (w : World) :
    Calls Tryz.prog 15 #[] w fun e w' => ∃ L rb, e = .returned (.pointer (some ⟨rb, 0, none⟩)) ∧ RepW w' L (St.new 3) ∧ Below w.heap.size w w' ∧ Fresh w L ∧ w.heap.size ≤ rb ∧ own2 L rb = none ∧
      w'.cell? ⟨rb, 0, none⟩ = some (.pointer (some ⟨L.wb, 0, none⟩)) ∧ w'.cell? ⟨rb, 1, none⟩ = some (.slice none 0 0) ∧ (∀ k, w'.frozen? ⟨rb, k, none⟩ = false) := by
  have hn := hide (new_any w 3 (by omega) (by omega))
  go_enter Tryz.func15, Tryz.ntmps15
  go_wp2_with (go_at_call 38; refine (unhide hn).mono ?_; rintro e w1 ⟨L, rfl, hR, hb, hown⟩)
  go_ret
  have hsz := hb.size
  refine ⟨L, w1.heap.size, rfl, hR.below (below_alloc _ _), hb.more (below_alloc _ _), Fresh.of hown, hsz, ?_, ?_, ?_, ?_⟩
  · unfold own2
    rw [if_neg (by have := hR.wlt; omega)]
    exact hR.rep.free (Nat.le_refl _)
  · exact World.cell?_alloc_at _ _ _ _ rfl
  · exact World.cell?_alloc_at _ _ _ _ rfl
  · intro k; exact World.frozen?_alloc_at _ _ _ _ rfl

def wsB : List Wr := [⟨1, 0, 5⟩, ⟨2, 3, 7⟩]
def sB : Nat → St
  | 0 => (St.new 2).begin wsB
  | j + 1 => (sB j).deliver 0
theorem sB_fly : ∀ j, j < 6 → 0 < (sB j).fly.length := by decide +kernel
theorem sB_len0 : (sB 0).fly.length = 2 := by decide +kernel
theorem sB_len6 : (sB 6).fly.length = 0 := by decide +kernel
theorem sB_v1 : (sB 6).value 1 ((0 : Nat) : Int) = 5 := by decide +kernel
theorem sB_v2 : (sB 6).value 2 ((3 : Nat) : Int) = 7 := by decide +kernel
theorem sB_st : (sB 6).state 0 1 = 3 := by decide +kernel
theorem wsB_mem : ∀ m, m ∈ members wsB → m ≤ 2 := by decide +kernel
theorem wsB_sound : soundB wsB ((2 : Nat) : Int) = true := by decide +kernel
theorem begin_calm {s : St} (h : Still s) (_hk : Ok s) (ws : List Wr) (hs : soundB ws s.parts = true) (hd : s.deals.length < 12) : s.beginP ws = (s.begin ws, (s.deals.length + 1, 0)) := by
  unfold St.beginP
  rw [if_pos hs, if_pos (h.up 0), if_pos hd, bgn_calm s h]
theorem deliver_calm {s : St} (h : Still s) (hk : Ok s) (i : Nat) (hi : i < s.fly.length) : s.deliverP i = (s.deliver i, 0) := by
  unfold St.deliverP
  rw [if_pos (by omega), Int.toNat_natCast, dlv_calm s h hk]
theorem ok_begin {s : St} (h : Still s) (hk : Ok s) (ws : List Wr) (hs : soundB ws s.parts = true) (hd : s.deals.length < 12) : Ok (s.begin ws) ∧ Still (s.begin ws) := by
  rw [← bgn_calm s h]
  exact ⟨hk.bgn ws (soundB_sound hs) hd, h.bgn ws⟩
theorem ok_deliver {s : St} (h : Still s) (hk : Ok s) (i : Nat) : Ok (s.deliver i) ∧ Still (s.deliver i) := by
  rw [← dlv_calm s h hk]
  exact ⟨hk.dlv i, h.dlv i⟩
theorem sB_ok : ∀ j, Ok (sB j) ∧ Still (sB j) ∧ (sB j).parts = 2 ∧ (sB j).deals.length = 1
  | 0 => by
    have h := ok_begin (Still.new 2) (Ok.new 2 (by omega) (by omega)) wsB wsB_sound (by simp [St.new])
    refine ⟨h.1, h.2, ?_, ?_⟩
    · show ((St.new 2).begin wsB).parts = 2
      rw [← bgn_calm _ (Still.new 2)]; exact (bgn_deals _ _).2
    · show ((St.new 2).begin wsB).deals.length = 1
      rw [← bgn_calm _ (Still.new 2), (bgn_deals _ _).1]; rfl
  | j + 1 => by
    obtain ⟨a, b, c, d⟩ := sB_ok j
    have h := ok_deliver b a 0
    refine ⟨h.1, h.2, ?_, ?_⟩
    · show ((sB j).deliver 0).parts = 2
      rw [← dlv_calm _ b a, (dlv_deals _ _).2]; exact c
    · show ((sB j).deliver 0).deals.length = 1
      rw [← dlv_calm _ b a, (dlv_deals _ _).1]; exact d

/-- A world of the program's at the address wb, all of it newer than w. -/
def At (w w1 : World) (wb : Nat) (s : St) : Prop := ∃ L, L.wb = wb ∧ RepW w1 L s ∧ Fresh w L ∧ Below w.heap.size w w1
theorem At.step {w w1 w2 : World} {L : Lay} {s' : St} (hF : Fresh w L) (hb : Below w.heap.size w w1) (h : LeavesW L w1 s' w2) : At w w2 L.wb s' := by
  obtain ⟨L', e1, _, hR, hE⟩ := h
  obtain ⟨f, b⟩ := hF.step hE hb.size
  exact ⟨L', e1, hR, f, hb.trans b⟩
theorem At.below {w w1 w2 : World} {wb : Nat} {s : St} (h : At w w1 wb s) (hb : Below w1.heap.size w1 w2) : At w w2 wb s := by
  obtain ⟨L, e, hR, hF, hB⟩ := h
  exact ⟨L, e, hR.below hb, hF, hB.more hb⟩
theorem At.read {w w1 w2 : World} {L : Lay} {s : St} (hF : Fresh w L) (hb : Below w.heap.size w w1) (h : ReadsW L w1 s w2) : At w w2 L.wb s := At.step hF hb h.leaves
theorem flying_at {w w1 : World} {wb : Nat} {s : St} (h : At w w1 wb s) (hk : Ok s) :
    Calls Tryz.prog 29 #[.pointer (some ⟨wb, 0, none⟩)] w1 fun e w' => ∃ a cap, e = .returned (.slice a s.fly.length cap) ∧ At w w' wb s := by
  obtain ⟨L, rfl, hR, hF, hB⟩ := h
  refine (flying_any hR hk.inv.fl).mono ?_
  rintro e w2 ⟨a, cap, rfl, hl, _⟩
  exact ⟨a, cap, rfl, At.read hF hB hl⟩
theorem deliver_at {w w1 : World} {wb : Nat} {s : St} (h : At w w1 wb s) (hk : Ok s) (hc : Still s) (i : Nat) (hi : i < s.fly.length) :
    Calls Tryz.prog 34 #[.pointer (some ⟨wb, 0, none⟩), .int .i64 i] w1 fun e w' => e = .returned (.int .i64 0) ∧ At w w' wb (s.deliver i) := by
  obtain ⟨L, rfl, hR, hF, hB⟩ := h
  refine (deliver_any hR hk i).mono ?_
  rw [deliver_calm hc hk i hi]
  rintro e w2 ⟨rfl, hl⟩
  exact ⟨rfl, At.step hF hB hl⟩
theorem state_at {w w1 : World} {wb : Nat} {s : St} (h : At w w1 wb s) (hk : Ok s) (n t : Nat) (hn : n ≤ s.parts) (h1 : 1 ≤ t) (h2 : t ≤ s.deals.length) :
    Calls Tryz.prog 20 #[.pointer (some ⟨wb, 0, none⟩), .int .i64 n, .int .i64 t] w1 fun e w' => e = .returned (.tuple #[.int .i64 (s.state n t), .int .i64 0]) ∧ At w w' wb s := by
  obtain ⟨L, rfl, hR, hF, hB⟩ := h
  refine (state_any hR hk n t).mono ?_
  have hP : s.stateP n t = (s.state n t, 0) := by unfold St.stateP; rw [if_pos (by omega)]; simp
  rw [hP]
  rintro e w2 ⟨rfl, hl⟩
  exact ⟨rfl, At.read hF hB hl⟩
theorem value_at {w w1 : World} {wb : Nat} {s : St} (h : At w w1 wb s) (hk : Ok s) (n k : Nat) (hn : n ≤ s.parts) (h1 : 1 ≤ n) (hk4 : k < 4) :
    Calls Tryz.prog 51 #[.pointer (some ⟨wb, 0, none⟩), .int .i64 n, .int .i64 k] w1 fun e w' => e = .returned (.tuple #[.int .i64 (s.value n k), .int .i64 0]) ∧ At w w' wb s := by
  obtain ⟨L, rfl, hR, hF, hB⟩ := h
  refine (value_any hR hk n k).mono ?_
  have hP : s.valueP n k = (s.value n k, 0) := by unfold St.valueP; rw [if_pos (by unfold St.keyOk; omega)]; simp
  rw [hP]
  rintro e w2 ⟨rfl, hl⟩
  exact ⟨rfl, At.read hF hB hl⟩

theorem wsB_at (w : World) : WrAt (w.alloc (Obj.cells #[.int .i64 1, .int .i64 0, .int .i64 5, .int .i64 2, .int .i64 3, .int .i64 7] 74)) (some ⟨w.heap.size, 0, none⟩) wsB := by
  refine .inr ⟨w.heap.size, 0, rfl, by simp, ?_⟩
  intro i x hx
  match i, hx with
  | 0, hx => simp [wsB] at hx; subst hx; simp [go_sem]
  | 1, hx => simp [wsB] at hx; subst hx; simp [go_sem]
  | n + 2, hx => simp [wsB] at hx

set_option maxRecDepth 100000 in
set_option maxHeartbeats 4000000 in
theorem begun_any (w : World) : Calls Tryz.prog 37 #[] w fun e w' => e = .returned (.bool true) ∧ Below w.heap.size w w' := by
  have hn := hide (new_any w 2 (by omega) (by omega))
  go_enter Tryz.func37, Tryz.ntmps37
  go_wp2_with (go_at_call 38; refine (unhide hn).mono ?_; rintro e w1 ⟨L, rfl, hR, hb, hown⟩)
  have hbw := below_alloc w1 (Obj.cells #[.int .i64 1, .int .i64 0, .int .i64 5, .int .i64 2, .int .i64 3, .int .i64 7] 74)
  have hwlt := hR.wlt
  refine (begin_any (hR.below hbw) (Ok.new 2 (by omega) (by omega)) (some ⟨w1.heap.size, 0, none⟩) 2 2 wsB rfl (by unfold maxLen; omega) (by omega) (wsB_at w1) (by intro ad h; injection h with h; subst h; show w1.heap.size ≠ L.wb; omega)).mono ?_
  have hbp := begin_calm (Still.new 2) (Ok.new 2 (by omega) (by omega)) wsB wsB_sound (by simp [St.new])
  rw [hbp]
  rintro e w2 ⟨rfl, hl⟩
  clear hbp
  have hA0 : At w w2 L.wb (sB 0) := At.step (Fresh.of hown) (hb.more hbw) hl
  have h1 : (((St.new 2).deals.length + 1 : Nat) : Int) = 1 := rfl
  rw [h1]
  clear hl hbw hwlt hR hb hn h1
  generalize L.wb = wb at *
  have hfy := flying_at hA0 (sB_ok 0).1
  rw [sB_len0] at hfy
  have HFY := hide hfy
  clear hfy hown
  go_wp2_with (go_at_call 29; refine (unhide HFY).mono ?_; rintro e w3 ⟨a3, cap3, rfl, hA3⟩)
  go_loopw [2, 4] (fun e i wr => ∃ j : Nat, j ≤ 6 ∧ i = .int .i64 j ∧ e = .int .i64 0 ∧ At w wr wb (sB j)) (fun _ i _ => 6 - (intOf i).toNat)
  case atStart => exact ⟨0, by omega, rfl, rfl, hA3⟩
  case round =>
    obtain ⟨j, hj, rfl, rfl, hA⟩ := hrel
    clear hA3 HFY hA0
    obtain ⟨q1, q3, q4, q5⟩ := sB_ok j
    by_cases hlt : j < 6
    · have hdv := hide (deliver_at hA q1 q3 0 (sB_fly j hlt))
      clear q1 q3 q4 q5
      go_wp2_with (go_at_call 34; refine (unhide hdv).mono ?_; rintro e w4 ⟨rfl, hA4⟩)
      exact ⟨⟨j + 1, by omega, by go_num, rfl, hA4⟩, by simp [intOf]; omega⟩
    · have hj6 : j = 6 := by omega
      subst hj6
      have hv1 := value_at hA q1 1 0 (by rw [q4]; omega) (by omega) (by omega)
      rw [sB_v1] at hv1
      have HV1 := hide hv1
      have Q1 := hide q1
      have Q3 := hide q3
      have Q4 := hide q4
      have Q5 := hide q5
      clear hv1 q1 q3 q4 q5 hlt
      go_wp2_with fail
      refine (unhide HV1).mono ?_
      rintro e w4 ⟨rfl, hA4⟩
      have hv2 := value_at hA4 (unhide Q1) 2 3 (by rw [unhide Q4]; omega) (by omega) (by omega)
      rw [sB_v2] at hv2
      have HV2 := hide hv2
      clear hv2
      go_wp2_with fail
      refine (unhide HV2).mono ?_
      rintro e w5 ⟨rfl, hA5⟩
      have hs1 := state_at hA5 (unhide Q1) 0 1 (by omega) (by omega) (by rw [unhide Q5]; omega)
      rw [sB_st] at hs1
      have HS1 := hide hs1
      clear hs1
      go_wp2_with fail
      refine (unhide HS1).mono ?_
      rintro e w6 ⟨rfl, hA6⟩
      have hf6 := flying_at hA6 (unhide Q1)
      rw [sB_len6] at hf6
      have HF6 := hide hf6
      clear hf6
      go_wp2_with fail
      refine (unhide HF6).mono ?_
      rintro e w7 ⟨a7, cap7, rfl, hA7⟩
      go_wp2
      go_ret
      obtain ⟨_, _, _, _, hbf⟩ := hA7
      exact ⟨rfl, hbf⟩

end Go.Proofs.YtekbjlhbjcikdaaGreat
