/-
  Walks of accordkeep's wrote and agreed.
-/
import Derived.Test.YtekbjlhbjcikdaaGreatK8
namespace Go.Proofs.YtekbjlhbjcikdaaGreat
open Go.RowKit Acc Go.MuLone

def hasRec : List (Nat × Nat) → Nat → Nat → Bool
  | [], _, _ => false
  | x :: r, t, st => (x.1 == t && x.2 == st) || hasRec r t st
theorem hasRec_drop (l : List (Nat × Nat)) (t st i : Nat) (x : Nat × Nat) (h : l[i]? = some x) : hasRec (l.drop i) t st = ((x.1 == t && x.2 == st) || hasRec (l.drop (i + 1)) t st) := by
  rw [List.drop_eq_getElem?_toList_append, h]; rfl
theorem hasRec_mem (l : List (Nat × Nat)) (t st : Nat) : hasRec l t st = true ↔ (t, st) ∈ l := by
  induction l with
  | nil => simp [hasRec]
  | cons x r ih =>
    obtain ⟨a, b⟩ := x
    simp only [hasRec, Bool.or_eq_true, Bool.and_eq_true, beq_iff_eq, ih, List.mem_cons, Prod.mk.injEq]
    constructor
    · rintro (⟨rfl, rfl⟩ | h)
      · exact .inl ⟨rfl, rfl⟩
      · exact .inr h
    · rintro (⟨rfl, rfl⟩ | h)
      · exact .inl ⟨rfl, rfl⟩
      · exact .inr h

set_option maxRecDepth 100000 in
set_option maxHeartbeats 1000000 in
theorem wrote_any {o : Nat → Option Unit} {w0 w1 : World} {rb wb : Nat} {s : St} (h : Kt o w0 rb wb w1 s) (n t st : Nat) (hn : n ≤ 3) :
    Calls Tryz.prog 44 #[.pointer (some ⟨rb, 0, none⟩), .int .i64 n, .int .i64 t, .int .i64 st] w1 fun e w' => e = .returned (.bool (hasRec (s.log n) t st)) ∧ Kt o w0 rb wb w' s := by
  have r0 := h.cells.1
  have hp3 := h.ok.2
  have hlen := h.ok.1.inv.len n
  have hlg := log_kt h (n : Int)
  have hl0 : s.logP n = (s.log n, 0) := by unfold St.logP; rw [if_pos (by rw [hp3]; omega)]; simp
  rw [hl0] at hlg
  have HLG := hide hlg
  clear hlg hl0 hp3
  go_enter Tryz.func44, Tryz.ntmps44
  go_wp2_with fail
  refine (unhide HLG).mono ?_
  rintro e w2 ⟨a, cap, rfl, h2, ho, _⟩
  have ho2 := Owns.of_row (ownsRow_mono ho (Nat.zero_le _))
  generalize hl : s.log n = l at *
  have HL := hide hl
  clear hl ho HLG
  go_wp2_with fail
  go_loop [11] (fun i => ∃ j : Nat, j ≤ l.length ∧ i = .int .i64 j ∧ Hid (hasRec l t st = hasRec (l.drop j) t st)) (fun i => l.length - (intOf i).toNat)
  case atStart => exact ⟨0, by omega, rfl, hide rfl⟩
  case round =>
    obtain ⟨j, hj, rfl, hv⟩ := hrel
    by_cases hlt : j < l.length
    · have hx : l[j]? = some l[j] := List.getElem?_eq_getElem _
      generalize l[j] = x at hx
      have HX := hide (hasRec_drop l t st j x hx)
      obtain ⟨g, ha, hcap, _, hc⟩ := ho2.at (by simp; omega)
      simp only at ha hcap
      subst ha
      obtain ⟨c0, c1⟩ := recCells_get l j x hx
      have c0 := hc _ _ c0
      have c1 := hc _ _ c1
      rw [show 2 * j = j * 2 from by omega] at c0 c1
      clear hc ho2 hx
      by_cases e1 : x.1 = t
      · have q1 := eqT e1
        by_cases e2 : x.2 = st
        · have q2 := eqT e2
          have HE := hide (And.intro e1 e2)
          clear e1 e2
          go_wp2
          go_ret
          refine ⟨?_, h2⟩
          rw [unhide HL, unhide hv, unhide HX, (unhide HE).1, (unhide HE).2]
          simp
        · have q2 := eqF e2
          have HE := hide e2
          clear e1 e2
          go_wp2
          refine ⟨⟨j + 1, by omega, by go_num, ?_⟩, by simp [intOf]; omega⟩
          show _ = _
          rw [unhide hv, unhide HX]
          simp [unhide HE]
      · have q1 := eqF e1
        have HE := hide e1
        clear e1
        go_wp2
        refine ⟨⟨j + 1, by omega, by go_num, ?_⟩, by simp [intOf]; omega⟩
        show _ = _
        rw [unhide hv, unhide HX]
        simp [unhide HE]
    · go_wp2
      go_ret
      refine ⟨?_, h2⟩
      rw [unhide HL, unhide hv, List.drop_of_length_le (by omega)]
      rfl

/-- What agreed looks for, in the plain model. -/
structure AgreedP (s : St) (t : Nat) : Prop where
  out : ∀ n : Nat, 1 ≤ n → n ≤ 3 → hasPart (s.deal t) n = false → s.state n t = 0
  one : ∀ n n' : Nat, s.state n t = 3 → s.state n' t = 4 → False
  all : ∀ n : Nat, s.state n t = 3 → ∀ m : Nat, 1 ≤ m → m ≤ 3 → hasPart (s.deal t) m = true → hasRec (s.log m) t 2 = true
theorem agreedP {s : St} (h : Ok s) (t : Nat) : AgreedP s t := by
  have hi := h.inv
  have dead4 : ∀ n', s.state n' t = 4 → s.dead t := by
    intro n' h4
    rcases (hi.h4).1 h4 with q | q
    · left; rw [← q.1]; exact q.2
    · rcases q.2 with q2 | q2
      · exact hi.abt n' t (by omega) q2
      · exact .inr ⟨n', (hi.nmb n' t (by omega) (by rw [q2]; simp)).1, q2⟩
  have com3 : ∀ n, s.state n t = 3 → s.h 0 t = [1, 3] := by
    intro n h3
    rcases (hi.h3).1 h3 with q | q
    · rw [← q.1]; exact q.2
    · exact hi.com n t (by omega) q.2
  refine ⟨?_, ?_, ?_⟩
  · intro n h1 _ hp
    apply (hi.h0).2
    apply Classical.byContradiction
    intro hne
    have hm := (hi.nmb n t h1 hne).1
    have := ((membersTo_mem _ _ _).1 hm).2.2
    rw [hp] at this
    cases this
  · intro n n' h3 h4
    exact hi.live (com3 n h3) (dead4 n' h4)
  · intro n h3 m h1 h2 hp
    have hm : s.mem t m := (membersTo_mem _ _ _).2 ⟨h1, by omega, hp⟩
    rw [hasRec_mem, ← mem_hist]
    rcases hi.cmt t (com3 n h3) m hm with q | q
    · have q' : hist (s.log m) t = [2] := q
      rw [q']; simp
    · have q' : hist (s.log m) t = [2, 3] := q
      rw [q']; simp

def anyTo (f : Nat → Bool) : Nat → Bool
  | 0 => false
  | n + 1 => anyTo f n || f n
theorem anyTo_ex (f : Nat → Bool) (n : Nat) : anyTo f n = true → ∃ m, m < n ∧ f m = true := by
  induction n with
  | zero => intro h; cases h
  | succ n ih =>
    intro h
    simp only [anyTo, Bool.or_eq_true] at h
    rcases h with h | h
    · obtain ⟨m, hm, e⟩ := ih h; exact ⟨m, by omega, e⟩
    · exact ⟨n, by omega, h⟩

set_option maxRecDepth 100000 in
set_option maxHeartbeats 4000000 in
theorem agreed_any {o : Nat → Option Unit} {w0 w1 : World} {rb wb : Nat} {s : St} (h : Kt o w0 rb wb w1 s) :
    Calls Tryz.prog 17 #[.pointer (some ⟨rb, 0, none⟩)] w1 fun e w' => e = .returned (.bool true) ∧ Kt o w0 rb wb w' s := by
  have hok := h.ok
  have hag := hide (fun t => agreedP hok.1 t)
  have h12 := hok.1.inv.d12
  go_enter Tryz.func17, Tryz.ntmps17
  go_wp2_with fail
  go_loopw [3] (fun i wr => ∃ j : Nat, j ≤ s.deals.length ∧ i = .int .i64 ((j : Int) + 1) ∧ Kt o w0 rb wb wr s) (fun i _ => (13 - intOf i).toNat)
  case atStart => exact ⟨0, Nat.zero_le _, rfl, h⟩
  case round =>
    obtain ⟨j, hj, rfl, hK⟩ := hrel
    obtain ⟨r0, a1, c1, r1⟩ := hK.cells
    by_cases hlt : j < s.deals.length
    · have HJ := hide hlt
      clear hlt
      have hjl : (j : Int) + 1 ≤ (s.deals.length : Int) := by have := unhide HJ; omega
      go_wp2_with fail
      go_loopw [4, 5, 6] (fun y n i wr => ∃ q : Nat, q ≤ 4 ∧ i = .int .i64 (q : Int) ∧ y = .bool (anyTo (fun m => s.state m (j + 1) == 3) q) ∧ n = .bool (anyTo (fun m => s.state m (j + 1) == 4) q) ∧ Kt o w0 rb wb wr s) (fun _ _ i _ => (4 - intOf i).toNat)
      case atStart => exact ⟨0, by omega, rfl, rfl, rfl, hK⟩
      case round =>
        obtain ⟨q, hq, rfl, rfl, rfl, hK2⟩ := hrel
        obtain ⟨r0, a2, c2, r1⟩ := hK2.cells
        by_cases hq4 : q < 4
        · have hst := state_kt hK2 (q : Int) ((j + 1 : Nat) : Int)
          have hp3 := hok.2
          have hs0 : s.stateP q ((j + 1 : Nat) : Int) = (s.state q (j + 1), 0) := by unfold St.stateP; rw [if_pos (by have := unhide HJ; omega)]; simp
          rw [hs0] at hst
          have HST := hide hst
          clear hst hs0 hp3
          go_wp2_with fail
          rw [show ((j : Int) + 1) = ((j + 1 : Nat) : Int) from by omega]
          refine (unhide HST).mono ?_
          rintro e w3 ⟨rfl, hK3⟩
          obtain ⟨g3, c3, a3, n3, cap3, rt3, hcc, rg3, hn3, hw3⟩ := hK3.tran j (unhide HJ)
          have hw6 : (s.deals.getD j []).length ≤ 6 := hok.1.inv.wf.w6 j
          have hout : 1 ≤ q → hasPart (s.deals.getD j []) q = false → s.state q (j + 1) = 0 := fun h1 h2 => (unhide hag (j + 1)).out q h1 (by omega) h2
          generalize s.deals.getD j [] = ws at *
          subst hn3
          have HMB := hide (member_any a3 ws.length cap3 ws (q : Int) w3 rfl (by omega) hw3)
          have HOUT := hide hout
          have r03 := hK3.cells.1
          have hY : Hid (anyTo (fun m => s.state m (j + 1) == 3) (q + 1) = (anyTo (fun m => s.state m (j + 1) == 3) q || (s.state q (j + 1) == 3))) := rfl
          have hN : Hid (anyTo (fun m => s.state m (j + 1) == 4) (q + 1) = (anyTo (fun m => s.state m (j + 1) == 4) q || (s.state q (j + 1) == 4))) := rfl
          have e3 : Hid (((s.state q (j + 1) : Int) == 3) = (s.state q (j + 1) == 3)) := by show _ = _; rw [Bool.eq_iff_iff]; simp; omega
          have e4 : Hid (((s.state q (j + 1) : Int) == 4) = (s.state q (j + 1) == 4)) := by show _ = _; rw [Bool.eq_iff_iff]; simp; omega
          clear hout hw3 hw6 HST
          generalize hYq : anyTo (fun m => s.state m (j + 1) == 3) q = Y at *
          generalize hNq : anyTo (fun m => s.state m (j + 1) == 4) q = N at *
          generalize hsq : s.state q (j + 1) = st at *
          have HQS := hide (And.intro hYq (And.intro hNq hsq))
          clear hYq hNq hsq
          cases Y <;> cases N
          all_goals
            go_wp2_with fail
            refine (unhide HMB).mono ?_
            rintro e w4 ⟨rfl, rfl⟩
            have hfin : ∀ y n : Bool, y = anyTo (fun m => s.state m (j + 1) == 3) (q + 1) → n = anyTo (fun m => s.state m (j + 1) == 4) (q + 1) → ∃ q' : Nat, q' ≤ 4 ∧ Value.int .i64 ((q : Int) + 1) = .int .i64 (q' : Int) ∧ Value.bool y = .bool (anyTo (fun m => s.state m (j + 1) == 3) q') ∧ Value.bool n = .bool (anyTo (fun m => s.state m (j + 1) == 4) q') ∧ Kt o w0 rb wb w4 s := fun y n hy hn => ⟨q + 1, by omega, by go_num, by rw [hy], by rw [hn], hK3⟩
            have HFIN := hide hfin
            clear hfin
            cases hb : hasPart ws q with
            | true =>
              clear hb
              go_wp2
              all_goals
                refine ⟨unhide HFIN _ _ ?_ ?_, by simp [intOf]; omega⟩
                · rw [unhide hY]; first | rfl | (simp only [Bool.false_or]; exact unhide e3)
                · rw [unhide hN]; first | rfl | (simp only [Bool.false_or]; exact unhide e4)
            | false =>
              by_cases hq0 : 1 ≤ q
              · have hz := unhide HOUT hq0 hb
                have hpos : (0 : Int) < (q : Int) := by omega
                have HZ := hide hz
                have qz : ((st : Int) != 0) = false := by rw [hz]; rfl
                clear hz hb
                go_wp2
                all_goals
                  refine ⟨unhide HFIN _ _ ?_ ?_, by simp [intOf]; omega⟩
                  · rw [unhide hY]; first | rfl | (simp only [Bool.false_or]; exact unhide e3)
                  · rw [unhide hN]; first | rfl | (simp only [Bool.false_or]; exact unhide e4)
              · have hpos : ¬ (0 : Int) < (q : Int) := by omega
                clear hb
                go_wp2
                all_goals
                  refine ⟨unhide HFIN _ _ ?_ ?_, by simp [intOf]; omega⟩
                  · rw [unhide hY]; first | rfl | (simp only [Bool.false_or]; exact unhide e3)
                  · rw [unhide hN]; first | rfl | (simp only [Bool.false_or]; exact unhide e4)
        · have hag1 := unhide hag (j + 1)
          have hy3 : anyTo (fun m => s.state m (j + 1) == 3) q = true → ∃ n, s.state n (j + 1) = 3 := fun hh => by
            obtain ⟨m, _, e⟩ := anyTo_ex _ _ hh; exact ⟨m, by simpa using e⟩
          have hy4 : anyTo (fun m => s.state m (j + 1) == 4) q = true → ∃ n, s.state n (j + 1) = 4 := fun hh => by
            obtain ⟨m, _, e⟩ := anyTo_ex _ _ hh; exact ⟨m, by simpa using e⟩
          have hq4' : ¬ (q : Int) ≤ 3 := by omega
          have HK2 := hide hK2
          cases hY4 : anyTo (fun m => s.state m (j + 1) == 3) q with
          | true =>
            cases hN4 : anyTo (fun m => s.state m (j + 1) == 4) q with
            | true =>
              exfalso
              obtain ⟨n, e3⟩ := hy3 hY4
              obtain ⟨n', e4⟩ := hy4 hN4
              exact hag1.one n n' e3 e4
            | false =>
              obtain ⟨n3, en3⟩ := hy3 hY4
              have HALL := hide (hag1.all n3 en3)
              clear hY4 hN4 hy3 hy4 en3 hag1
              go_wp2_with fail
              go_loopw [10] (fun i wr => ∃ p : Nat, 1 ≤ p ∧ p ≤ 4 ∧ i = .int .i64 (p : Int) ∧ Kt o w0 rb wb wr s) (fun i _ => (4 - intOf i).toNat)
              case atStart => exact ⟨1, by omega, by omega, rfl, hK2⟩
              case round =>
                obtain ⟨p, hp1, hp4, rfl, hK5⟩ := hrel
                by_cases hp : p < 4
                · obtain ⟨g3, c3, a3, n3, cap3, rt3, hcc, rg3, hn3, hw3⟩ := hK5.tran j (unhide HJ)
                  have hw6 : (s.deals.getD j []).length ≤ 6 := hok.1.inv.wf.w6 j
                  have hall : hasPart (s.deals.getD j []) p = true → hasRec (s.log p) (j + 1) 2 = true := fun h2 => unhide HALL p hp1 (by omega) h2
                  generalize s.deals.getD j [] = ws at *
                  subst hn3
                  have HMB := hide (member_any a3 ws.length cap3 ws (p : Int) wr rfl (by omega) hw3)
                  have HWR := hide (wrote_any hK5 p (j + 1) 2 (by omega))
                  have r05 := hK5.cells.1
                  have hp3 : (p : Int) ≤ 3 := by omega
                  have HAL2 := hide hall
                  clear hall hw3 hw6
                  go_wp2_with fail
                  refine (unhide HMB).mono ?_
                  rintro e w6 ⟨rfl, rfl⟩
                  go_wp2_with fail
                  rw [show ((j : Int) + 1) = ((j + 1 : Nat) : Int) from by omega]
                  refine (unhide HWR).mono ?_
                  rintro e w7 ⟨rfl, hK7⟩
                  cases hb : hasPart ws p with
                  | true =>
                    rw [unhide HAL2 hb]
                    clear hb
                    go_wp2
                    exact ⟨⟨p + 1, by omega, by omega, by go_num, hK7⟩, by simp [intOf]; omega⟩
                  | false =>
                    clear hb
                    go_wp2
                    exact ⟨⟨p + 1, by omega, by omega, by go_num, hK7⟩, by simp [intOf]; omega⟩
                · have hp3 : ¬ (p : Int) ≤ 3 := by omega
                  clear hp
                  have := unhide HJ
                  go_wp2
                  exact ⟨⟨j + 1, by omega, by go_num, hK5⟩, by simp [intOf]; omega⟩
          | false =>
            clear hY4 hy3 hy4 hag1
            cases hN4 : anyTo (fun m => s.state m (j + 1) == 4) q with
            | true =>
              clear hN4
              go_wp2_with fail
              go_loopw [10] (fun i wr => i = .int .i64 1 ∧ Kt o w0 rb wb wr s) (fun _ _ => 0)
              case atStart => exact ⟨rfl, hK2⟩
              case round =>
                obtain ⟨rfl, hK5⟩ := hrel
                have := unhide HJ
                go_wp2
                exact ⟨⟨j + 1, by omega, by go_num, hK5⟩, by simp [intOf]; omega⟩
            | false =>
              clear hN4
              go_wp2_with fail
              go_loopw [10] (fun i wr => i = .int .i64 1 ∧ Kt o w0 rb wb wr s) (fun _ _ => 0)
              case atStart => exact ⟨rfl, hK2⟩
              case round =>
                obtain ⟨rfl, hK5⟩ := hrel
                have := unhide HJ
                go_wp2
                exact ⟨⟨j + 1, by omega, by go_num, hK5⟩, by simp [intOf]; omega⟩
    · have hjl : ¬ (j : Int) + 1 ≤ (s.deals.length : Int) := by omega
      clear hlt
      go_wp2
      go_ret
      exact ⟨rfl, hK⟩
end Go.Proofs.YtekbjlhbjcikdaaGreat
