/-
  Walk of accordkeep.Written.
-/
import Derived.Test.YtekbjlhbjcikdaaGreatK18
import Derived.Laws.AppendOwnNone
namespace Go.Proofs.YtekbjlhbjcikdaaGreat
open Go.RowKit Acc Go.MuLone

theorem written_next {s : St} {old : Nat → List (Nat × Nat)} {n : Nat} (_hn : n < 4) (h : ∀ m, m < 4 → (m < n → old m = s.log m) ∧ (n ≤ m → old m <+: s.log m)) :
    Hid (∀ m, m < 4 → (m < n + 1 → setAt (setAt old 4 (s.log n)) n (s.log n) m = s.log m) ∧ (n + 1 ≤ m → setAt (setAt old 4 (s.log n)) n (s.log n) m <+: s.log m)) := by
  intro m hm
  by_cases e : m = n
  · subst e
    rw [setAt_same]
    exact ⟨fun _ => rfl, fun _ => List.prefix_refl _⟩
  · rw [setAt_ne _ _ e, setAt_ne _ _ (by omega)]
    exact ⟨fun h1 => (h m hm).1 (by omega), fun h1 => (h m hm).2 (by omega)⟩

set_option maxRecDepth 100000 in
set_option maxHeartbeats 8000000 in
theorem writtenLaw_any (w : World) (ra : Option Addr) (rn rc : Nat) (hrn : rn ≤ maxLen) (_hrc : rn ≤ rc) (hra : StepsAt w ra rn) :
    Calls Tryz.prog 7 #[.slice ra rn rc] w fun e w' => e = .returned (.bool true) ∧ Below w.heap.size w w' := by
  unfold maxLen at hrn
  have hbg := hide (troubled_any w)
  go_enter Tryz.func7, Tryz.ntmps7
  go_wp2_with fail
  refine (unhide hbg).mono ?_
  rintro e w1 ⟨rfl, hb1⟩
  clear hbg
  have hfr := hide (run_fresh w1)
  go_wp2_with fail
  refine (unhide hfr).mono ?_
  rintro e w2 ⟨rb, wb, rfl, hK⟩
  have hK0 := Kt.lift hb1 hK
  clear hfr hK hb1
  go_wp2_with fail
  have hW0 : Kw w rb wb w2.heap.size (w2.alloc (.cells #[.slice none 0 0, .slice none 0 0, .slice none 0 0, .slice none 0 0] 34)) (St.new 3) (fun _ => ⟨none, 0, 0⟩) (fun _ => []) := Kw.begin hK0
  generalize w2.heap.size = bw at *
  go_loopw [6] (fun i wr => ∃ (j : Nat) (s : St) (V : Nat → Sl) (old : Nat → List (Nat × Nat)), j ≤ rn ∧ j ≤ 70 ∧ i = .int .i64 (j : Int) ∧ Kw w rb wb bw wr s V old ∧ Hid (∀ n, n < 4 → old n = s.log n)) (fun i _ => 70 - (intOf i).toNat)
  case atStart => exact ⟨0, St.new 3, _, _, by omega, by omega, rfl, hW0, fun n _ => rfl⟩
  case round =>
    clear hK0 hW0
    obtain ⟨j, s, V, old, hj, hj70, rfl, hW, hO⟩ := hrel
    by_cases hgo : j < rn ∧ j < 70
    · obtain ⟨hj1, hj2⟩ := hgo
      obtain ⟨g, o, K, A, B, C, rfl, m0, m1, m2, m3, iK, iA, iB, iC⟩ := hra.get hW.kt j hj1
      obtain ⟨ow, hKo, hback⟩ := hW.use
      have HB := hide hback
      have hst := hide (step_any hKo K A B C iK iA iB iC)
      have HG := hide (Grow.step s K A B C)
      clear hback
      go_wp2_with fail
      refine (unhide hst).mono ?_
      rintro e w3 ⟨rfl, hK3⟩
      have hW3 := unhide HB _ _ hK3
      have hO3 : Hid (∀ n, n < 4 → (n < 0 → old n = (stepP s K A B C).log n) ∧ (0 ≤ n → old n <+: (stepP s K A B C).log n)) := fun n hn => ⟨fun h => by omega, fun _ => by rw [unhide hO n hn]; exact unhide HG n⟩
      generalize stepP s K A B C = s3 at *
      clear hst m0 m1 m2 m3 HB hK3 hKo hW hO HG
      go_wp2_with fail
      go_loopw [8] (fun i wr => ∃ (n : Nat) (V : Nat → Sl) (old : Nat → List (Nat × Nat)), n ≤ 4 ∧ i = .int .i64 (n : Int) ∧ Kw w rb wb bw wr s3 V old ∧ Hid (∀ m, m < 4 → (m < n → old m = s3.log m) ∧ (n ≤ m → old m <+: s3.log m))) (fun i _ => (4 - intOf i).toNat)
      case atStart => exact ⟨0, V, old, by omega, rfl, hW3, hO3⟩
      case round =>
        clear hW3 hO3
        obtain ⟨n, V, old, hn4, rfl, hW, hO⟩ := hrel
        by_cases hn : n < 4
        · have hni : (n : Int) ≤ 3 := by omega
          have r0 := hW.kt.cells.1
          have hlg := log_kw hW (n : Int)
          have hp3 := hW.kt.ok.2
          have hl0 : s3.logP (n : Int) = (s3.log n, 0) := by unfold St.logP; rw [if_pos (by omega)]; simp
          rw [hl0] at hlg
          have HLG := hide hlg
          clear hlg hl0
          go_wp2_with fail
          refine (unhide HLG).mono ?_
          rintro e w5 ⟨la, lc, rfl, hW5⟩
          have HOK := hide hW.kt.ok
          clear HLG hW r0
          have hlen24 := (unhide HOK).1.inv.len n
          have hpre := (unhide hO n hn).2 (Nat.le_refl _)
          have hple := hpre.length_le
          have hVn : setAt V 4 (⟨la, (s3.log n).length, lc⟩ : Sl) n = V n := setAt_ne _ _ (by omega)
          have hon : setAt old 4 (s3.log n) n = old n := setAt_ne _ _ (by omega)
          have hat := hW5.at n hn
          rw [hVn, hon] at hat
          obtain ⟨cw, _⟩ := hat
          have HPRE := hide hpre
          clear hpre
          go_wp2_with fail
          go_loopw [11] (fun i wr => ∃ k : Nat, k ≤ (old n).length ∧ i = .int .i64 (k : Int) ∧ Kw w rb wb bw wr s3 (setAt V 4 ⟨la, (s3.log n).length, lc⟩) (setAt old 4 (s3.log n))) (fun i _ => ((old n).length - intOf i).toNat)
          case atStart => exact ⟨0, Nat.zero_le _, rfl, hW5⟩
          case round =>
            clear hW5 cw
            obtain ⟨k, hk, rfl, hWk⟩ := hrel
            have hat := hWk.at n hn
            rw [hVn, hon] at hat
            obtain ⟨cw, ow⟩ := hat
            have ol := hWk.told
            by_cases hlt : k < (old n).length
            · have hki : (k : Int) < ((old n).length : Int) := by omega
              have hx : (old n)[k]? = some (old n)[k] := List.getElem?_eq_getElem _
              generalize (old n)[k] = x at hx
              have hx2 : (s3.log n)[k]? = some x := by
                obtain ⟨r, e⟩ := unhide HPRE
                rw [← e, List.getElem?_append_left hlt]; exact hx
              obtain ⟨gw, ew⟩ := rec_some ow (by omega)
              obtain ⟨gl, el⟩ := rec_some ol (by omega)
              subst el
              rw [ew] at ow cw
              obtain ⟨p1, p2, p3⟩ := rec_cells ow k x hx
              obtain ⟨q1, q2, q3⟩ := rec_cells ol k x hx2
              have hkl : (k : Int) < ((s3.log n).length : Int) := by omega
              have hni4 : (n : Int) < 4 := by omega
              clear ow ol hx hx2 ew hlt
              go_wp2_with fail
              go_region
              go_wp2
              exact ⟨⟨k + 1, by omega, by go_num, hWk.below (Below.refl _ _).drew⟩, by simp [intOf]; omega⟩
            · have hki : ¬ (k : Int) < ((old n).length : Int) := by omega
              have HR := hide (fun (j : Nat) (x : Nat × Nat) h => (unhide HOK).1.inv.rec_range n j x h)
              have HLW := hide (lawful_any n (s3.log n) s3.deals.length la lc wr (unhide HOK).1.inv.d12 (by omega) (by omega) ol (unhide HR) ((unhide HOK).1.inv.law n))
              obtain ⟨r0, a1, c1, r1⟩ := hWk.kt.cells
              clear hlt ow ol
              go_wp2_with fail
              refine (unhide HLW).mono ?_
              rintro e w7 ⟨rfl, hb7⟩
              have hW7 := hWk.below hb7
              clear hWk r0 r1 cw HLW
              by_cases hz : 0 < (s3.log n).length
              · have hzi : (0 : Int) < ((s3.log n).length : Int) := by omega
                have ol := hW7.told
                obtain ⟨gl, el⟩ := rec_some ol hz
                subst el
                obtain ⟨M, hM⟩ : ∃ M, (s3.log n).length = M + 1 := ⟨(s3.log n).length - 1, by omega⟩
                have hx : (s3.log n)[M]? = some ((s3.log n)[M]'(by omega)) := List.getElem?_eq_getElem _
                generalize (s3.log n)[M]'(by omega) = x at hx
                have hls := last_state (l := s3.log n) (x := x) (by rw [hM]; exact hx)
                have hrg := unhide HR M x hx
                obtain ⟨q1, q2, q3⟩ := rec_cells ol M x hx
                obtain ⟨x1, x2⟩ := x
                simp only at q2 q3 hls hrg
                have HM := hide hM
                obtain ⟨os, hKs, hfree, hback⟩ := hW7.use2 (below_alloc w7 (.cells #[.int .i64 x1, .int .i64 x2] 43))
                have HB := hide hback
                have r0s := hKs.cells.1
                have hst := state_kt hKs.drew (n : Int) (x1 : Int)
                have hs0 : s3.stateP (n : Int) (x1 : Int) = (x2, 0) := by
                  unfold St.stateP; rw [if_pos (by omega)]
                  show (stOf (s3.log n) x1, 0) = _
                  rw [hls]
                rw [hs0] at hst
                have HST := hide hst
                have hkeep : ∀ w8, Kt os (w7.alloc (.cells #[.int .i64 x1, .int .i64 x2] 43)) rb wb w8 s3 → w8.cell? ⟨w7.heap.size, 0, none⟩ = some (.int .i64 (x1 : Int)) ∧ w8.cell? ⟨w7.heap.size, 1, none⟩ = some (.int .i64 (x2 : Int)) := by
                  intro w8 h8
                  have hbk := h8.keep (b := w7.heap.size) (by simp) (hfree _ (Nat.le_refl _))
                  exact ⟨(World.cell?_of_block (a := ⟨w7.heap.size, 0, none⟩) hbk).trans (by rw [World.cell?_alloc_at _ _ w7.heap.size 0 rfl]; rfl), (World.cell?_of_block (a := ⟨w7.heap.size, 1, none⟩) hbk).trans (by rw [World.cell?_alloc_at _ _ w7.heap.size 1 rfl]; rfl)⟩
                have HKP := hide hkeep
                clear hst hs0 hback hkeep hls hrg hx ol hfree hW7
                go_wp2_with fail
                clear hM
                go_region_held3 (fun w' => w'.cell? ⟨rb, 0, none⟩ = some (.pointer (some ⟨wb, 0, none⟩)) ∧ w'.cell? ⟨w7.heap.size, 0, none⟩ = some (.int .i64 (x1 : Int))) (go_keep)
                  (first
                    | (go_at_call 20; refine (unhide HST).mono ?_; rintro e w8 ⟨rfl, hK8⟩; have r08 := hK8.cells.1; obtain ⟨b80, b81⟩ := unhide HKP _ hK8))
                have hW8 := unhide HB _ _ hK8
                have hM24 : M + 1 ≤ 24 := by have := unhide HM; omega
                have hone := recCells_one (s3.log n)
                have ol := (hW8.below (below_alloc w8 (.cells #[] 43))).told
                have hnews := rec_news ol (by omega)
                have hlM : (recCells (s3.log n)).length = (M + 1) * 2 := by rw [recCells_length, unhide HM]
                obtain ⟨i0, hi, hz0, hz1, hz2⟩ := info_parts Tryz.infoRec
                have HN := hide hnews
                have HLM := hide hlM
                have HO := hide hone
                clear HST HKP HB q2 q3 r0s hKs ol hnews hlM hone
                go_wp2_with (at_builtin; refine wpList_append_own _ rfl _ _ 33 rfl w8.heap.size 43 i0 (.agg #[.int .i64 0, .int .i64 0]) 2 16 Tryz.underlying33 hi hz0 hz1 hz2 rfl (by decide) (.slice (some ⟨w8.heap.size, 0, none⟩) 0 0) 0 [] rfl (World.ownsRow_made w8 #[] 0 (Nat.le_refl _) (by unfold maxLen; omega) rfl) ⟨gl, 0, none⟩ (M + 1) lc (recCells (s3.log n)) rfl (unhide HLM) (unhide HN) (unhide HO) (by unfold maxLen; omega) (by omega) (by simp) ?_; intro v' w9 g1 g2 g3; have hb9 : Below w8.heap.size w8 w9 := ((Below.refl _ w8).alloc (Nat.le_refl _) _).grown g2 (by simp) (fun k hk => by simp [Value.ownBlock] at hk; omega); obtain ⟨sa, sc, rfl⟩ := ownsRow_sl g1; have hat9 := (hW8.below hb9).at n hn; have hwm9 := (hW8.below hb9).warm n; obtain ⟨cw9, _⟩ := hat9; obtain ⟨fz9, bl9⟩ := hwm9; clear g2 g3)
                have hW9 := hW8.store hb9 n hn sa (M + 1) sc (s3.log n) (by simpa using g1)
                exact ⟨⟨n + 1, _, _, by omega, by go_num, hW9, written_next hn (unhide hO)⟩, by simp [intOf]; omega⟩
              · have hzi : ¬ (0 : Int) < ((s3.log n).length : Int) := by omega
                have hM : (s3.log n).length = 0 := by omega
                have hnil : s3.log n = [] := List.eq_nil_of_length_eq_zero hM
                have hcase := hW7.told.2
                simp only [Value.slice.injEq] at hcase
                have hla : (la = none ∧ lc = 0) ∨ ∃ gl, la = some ⟨gl, 0, none⟩ := by
                  rcases hcase with ⟨⟨e1, _, e3⟩, _⟩ | ⟨g', cap', cur, ⟨e1, _⟩, _⟩
                  · exact .inl ⟨e1, e3⟩
                  · exact .inr ⟨g', e1⟩
                have HNL := hide hnil
                obtain ⟨i0, hi, hz0, hz1, hz2⟩ := info_parts Tryz.infoRec
                clear hcase hnil hz
                rcases hla with ⟨rfl, rfl⟩ | ⟨gl, rfl⟩
                · go_wp2_with (at_builtin; refine wpList_append_own_none rfl _ _ 33 rfl w7.heap.size 43 i0 2 Tryz.underlying33 hi (.slice (some ⟨w7.heap.size, 0, none⟩) 0 0) 0 [] rfl (World.ownsRow_made w7 #[] 0 (Nat.le_refl _) (by unfold maxLen; omega) rfl) rfl ?_; have hb9 : Below w7.heap.size w7 (w7.alloc (.cells #[] 43)) := below_alloc _ _; have hat9 := (hW7.below hb9).at n hn; have hwm9 := (hW7.below hb9).warm n; obtain ⟨cw9, _⟩ := hat9; obtain ⟨fz9, bl9⟩ := hwm9)
                  have hW9 := hW7.store hb9 n hn (some ⟨w7.heap.size, 0, none⟩) 0 0 (s3.log n) (by rw [unhide HNL]; exact World.ownsRow_made w7 #[] 0 (Nat.le_refl _) (by unfold maxLen; omega) rfl)
                  exact ⟨⟨n + 1, _, _, by omega, by go_num, hW9, written_next hn (unhide hO)⟩, by simp [intOf]; omega⟩
                · go_wp2_with (at_builtin; refine wpList_append_own _ rfl _ _ 33 rfl w7.heap.size 43 i0 (.agg #[.int .i64 0, .int .i64 0]) 2 16 Tryz.underlying33 hi hz0 hz1 hz2 rfl (by decide) (.slice (some ⟨w7.heap.size, 0, none⟩) 0 0) 0 [] rfl (World.ownsRow_made w7 #[] 0 (Nat.le_refl _) (by unfold maxLen; omega) rfl) ⟨gl, 0, none⟩ 0 lc [] rfl rfl (fun j u hu => by simp at hu) (fun u hu => by simp at hu) (by unfold maxLen; omega) (by omega) (by simp) ?_; intro v' w9 g1 g2 g3; have hb9 : Below w7.heap.size w7 w9 := ((Below.refl _ w7).alloc (Nat.le_refl _) _).grown g2 (by simp) (fun k hk => by simp [Value.ownBlock] at hk; omega); obtain ⟨sa, sc, rfl⟩ := ownsRow_sl g1; have hat9 := (hW7.below hb9).at n hn; have hwm9 := (hW7.below hb9).warm n; obtain ⟨cw9, _⟩ := hat9; obtain ⟨fz9, bl9⟩ := hwm9; clear g2 g3)
                  have hW9 := hW7.store hb9 n hn sa 0 sc (s3.log n) (by rw [unhide HNL]; simpa [recCells] using g1)
                  exact ⟨⟨n + 1, _, _, by omega, by go_num, hW9, written_next hn (unhide hO)⟩, by simp [intOf]; omega⟩
        · have hni : ¬ (n : Int) ≤ 3 := by omega
          have hn' : n = 4 := by omega
          have hO4 : Hid (∀ m, m < 4 → old m = s3.log m) := fun m hm => (unhide hO m hm).1 (by omega)
          clear hn hn' hO
          go_wp2
          exact ⟨⟨j + 1, s3, V, old, by omega, by omega, by go_num, hW, hO4⟩, by simp [intOf]; omega⟩
    · by_cases hjr : j < rn
      · have hj70' : ¬ (j : Int) < 70 := by omega
        clear hgo
        go_wp2
        go_ret
        exact ⟨rfl, hW.kt.blw⟩
      · clear hgo
        go_wp2
        go_ret
        exact ⟨rfl, hW.kt.blw⟩
end Go.Proofs.YtekbjlhbjcikdaaGreat
