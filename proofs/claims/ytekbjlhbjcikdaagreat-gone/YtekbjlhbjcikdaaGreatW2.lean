/-
  Walk of deal.Sound.
-/
import Derived.Test.YtekbjlhbjcikdaaGreatW1
import Derived.Test.YtekbjlhbjcikdaaGreatFace
import Derived.Deep.RegionWith
namespace Go.Proofs.YtekbjlhbjcikdaaGreat
open Go.RowKit Acc

theorem WrAt.take {w : World} {a : Option Addr} {ws : List Wr} (h : WrAt w a ws) (i : Nat) : WrAt w a (ws.take i) := by
  rcases h with h | ⟨g, o, ha, hg, hc⟩
  · exact .inl (by simp [h])
  · exact .inr ⟨g, o, ha, hg, fun j x hx => hc j x (by
      rw [List.getElem?_take] at hx
      split at hx
      · exact hx
      · cases hx)⟩

set_option maxRecDepth 100000 in
set_option maxHeartbeats 2000000 in
theorem sound_any (a : Option Addr) (n cap : Nat) (ws : List Wr) (parts : Int) (w : World) (hn : ws.length = n) (hm : n ≤ maxLen) (hc : n ≤ cap) (hw : WrAt w a ws) :
    Calls Tryz.prog 75 #[.slice a n cap, .int .i64 parts] w fun e w' => e = .returned (.bool (soundB ws parts)) ∧ Below w.heap.size w w' := by
  have HN : Hid (ws.length = n) := hn
  clear hn
  unfold maxLen at hm
  by_cases h1 : n < 1
  · have HB : Hid (soundB ws parts = false) := by show _ = _; simp [soundB, HN.out]; omega
    go_enter Tryz.func75, Tryz.ntmps75
    go_wp2
    go_ret
    exact ⟨by rw [HB.out]; rfl, Below.refl _ _⟩
  by_cases h2 : 6 < n
  · have HB : Hid (soundB ws parts = false) := by show _ = _; simp [soundB, HN.out]; omega
    go_enter Tryz.func75, Tryz.ntmps75
    go_wp2
    go_ret
    exact ⟨by rw [HB.out]; rfl, Below.refl _ _⟩
  go_enter Tryz.func75, Tryz.ntmps75
  go_wp2
  go_loopw [17] (fun i wr => ∃ j : Nat, j ≤ n ∧ i = .int .i64 j ∧ Below w.heap.size w wr ∧ Hid (∀ k, k < j → okAt ws parts k = true)) (fun i _ => n - (intOf i).toNat)
  case atStart => exact ⟨0, by omega, rfl, Below.refl _ _, by intro k hk; omega⟩
  case round =>
    obtain ⟨j, hj, rfl, hb, hf⟩ := hrel
    by_cases hlt : j < n
    · have hx : ws[j]? = some (ws[j]'(by rw [HN.out]; exact hlt)) := List.getElem?_eq_getElem _
      generalize ws[j]'(by rw [HN.out]; exact hlt) = x at hx
      have hd : okAt ws parts j = (decide (1 ≤ x.part) && decide (x.part ≤ parts) && decide (0 ≤ x.key) && decide (x.key < 4) && decide (findI (ws.take j) x.part x.key 0 < 0)) := by simp [okAt, hx]
      have hw' := hw.below hb
      have hwt := (hw.below hb).take j
      rcases hw' with h | ⟨g, o, ha, hg, hc⟩
      · simp [h] at hx
      · subst ha
        obtain ⟨c0, c1, c2⟩ := hc j x hx
        clear hc hw hx
        have HD : Hid _ := hd
        clear hd
        by_cases q1 : x.part < 1
        · have HB : Hid (soundB ws parts = false) := soundB_false (by rw [HN.out]; exact hlt) (by rw [HD.out]; simp; omega)
          go_wp2
          go_ret
          exact ⟨by rw [HB.out]; rfl, hb.alloc hb.size _⟩
        by_cases q2 : parts < x.part
        · have HB : Hid (soundB ws parts = false) := soundB_false (by rw [HN.out]; exact hlt) (by rw [HD.out]; simp; omega)
          go_wp2
          go_ret
          exact ⟨by rw [HB.out]; rfl, hb.alloc hb.size _⟩
        by_cases q3 : (decide (0 ≤ x.key) && decide (x.key < 4)) = true
        · have H3 : Hid _ := q3
          clear q3
          go_wp2_with fail
          refine (isKey_any x.key _).mono ?_
          rintro e w1 ⟨rfl, rfl⟩
          rw [H3.out]
          go_wp2_with fail
          go_region_with ((go_at_call 116; refine (find_any _ j cap (ws.take j) x.part x.key _ (by simp; rw [HN.out]; omega) (by omega) (by exact hwt.below ((below_alloc _ _).drew))).mono ?_; rintro e w2 ⟨rfl, hb2⟩))
          all_goals
            have hb3 : Below w.heap.size w w2 := (hb.alloc hb.size _).drew.trans (hb2.mono (by simp; have := hb.size; omega))
            by_cases q4 : findI (ws.take j) x.part x.key 0 < 0
            · have HF : Hid (okAt ws parts j = true) := by
                show _ = _
                rw [HD.out]
                have h3 := H3.out
                simp at h3
                simp [q4, h3]; omega
              generalize findI (ws.take j) x.part x.key 0 = fi at *
              go_wp2
              refine ⟨⟨j + 1, by omega, by go_num, hb3, ?_⟩, by simp [intOf]; omega⟩
              intro k hk
              by_cases hkj : k = j
              · rw [hkj]; exact HF.out
              · exact hf.out k (by omega)
            · have HB : Hid (soundB ws parts = false) := soundB_false (by rw [HN.out]; exact hlt) (by rw [HD.out]; simp [q4])
              generalize findI (ws.take j) x.part x.key 0 = fi at *
              go_wp2
              go_ret
              exact ⟨by rw [HB.out]; rfl, hb3⟩
        · have q3' : (decide (0 ≤ x.key) && decide (x.key < 4)) = false := by simpa using q3
          have HB : Hid (soundB ws parts = false) := soundB_false (by rw [HN.out]; exact hlt) (by
            rw [HD.out]
            simp at q3 ⊢
            omega)
          have H3 : Hid _ := q3'
          clear q3 q3'
          go_wp2_with fail
          refine (isKey_any x.key _).mono ?_
          rintro e w1 ⟨rfl, rfl⟩
          rw [H3.out]
          go_wp2
          go_ret
          exact ⟨by rw [HB.out]; rfl, hb.alloc hb.size _⟩
    · have HB : Hid (soundB ws parts = true) := by
        show _ = _
        have h : (List.range ws.length).all (okAt ws parts) = true := by
          rw [List.all_eq_true]; intro k hk; exact hf.out k (by rw [HN.out] at hk; simp at hk; omega)
        unfold soundB
        rw [h, HN.out]
        simp
        omega
      go_wp2
      go_ret
      refine ⟨?_, hb⟩
      rw [HB.out]; rfl
end Go.Proofs.YtekbjlhbjcikdaaGreat
