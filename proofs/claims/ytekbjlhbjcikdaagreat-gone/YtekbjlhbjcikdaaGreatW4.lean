/-
  Walks of the functions of package nodes that only read: Value, Holder, clashes, and the small ones.
-/
import Derived.Test.YtekbjlhbjcikdaaGreatW3
namespace Go.Proofs.YtekbjlhbjcikdaaGreat
open Go.RowKit Acc

/-- What the numbers in a world keep to. -/
structure Wf (s : St) : Prop where
  p1 : 1 ≤ s.parts
  p5 : s.parts ≤ 5
  d12 : s.deals.length ≤ 12
  w6 : ∀ t, (s.deals.getD t []).length ≤ 6
  ll : ∀ n, n ≤ s.parts → (s.log n).length ≤ 1000000
  lt : ∀ n x, n ≤ s.parts → x ∈ s.log n → 1 ≤ x.1 ∧ x.1 ≤ s.deals.length
  fb : ∀ n k, s.fuse n = some k → k < 9223372036854775808

theorem Rep.deal {w : World} {L : Lay} {s : St} (h : Rep w L s) (t : Nat) (h1 : 1 ≤ t) (h2 : t ≤ s.deals.length) :
    (L.dl (t - 1)).n = (s.deal t).length ∧ WrAt w (L.dl (t - 1)).a (s.deal t) := (h.ow (t - 1) (by omega)).wrAt
theorem Wf.deal {s : St} (h : Wf s) (t : Nat) : (s.deal t).length ≤ 6 := h.w6 (t - 1)

theorem value_take (s : St) (l : List (Nat × Nat)) (p k : Int) (i : Nat) (x : Nat × Nat) (h : l[i]? = some x) :
    (l.take (i + 1)).foldl (valStep s p k) 0 = valStep s p k ((l.take i).foldl (valStep s p k) 0) x := by
  rw [List.take_add_one, h]; simp [List.foldl_append]

set_option maxRecDepth 100000 in
set_option maxHeartbeats 1000000 in
theorem nodesValue_any {w : World} {L : Lay} {s : St} (h : Rep w L s) (hf : Wf s) (p : Nat) (k : Int) (hp : p ≤ s.parts) :
    Calls Tryz.prog 85 #[.pointer (some ⟨L.nb, 0, none⟩), .int .i64 p, .int .i64 k] w fun e w' => e = .returned (.int .i64 (s.value p k)) ∧ Below w.heap.size w w' := by
  have ho := h.ol p hp
  have hll := hf.ll p hp
  have hlen := ho.len
  rw [recCells_length] at hlen
  have c0 := h.c0
  have ca := h.ca p hp
  have hp5 := hf.p5
  generalize hsl : L.lv p = sl at *
  obtain ⟨a, n, cap⟩ := sl
  simp only at hlen ca
  have HL : Hid ((s.log p).length = n) := by show _ = _; omega
  have hn : n ≤ 1000000 := by omega
  clear hll hlen
  have HR := h
  have HF := hf
  clear h hf
  go_enter Tryz.func85, Tryz.ntmps85
  go_wp2
  go_loopw [8] (fun i wr => ∃ j : Nat, j ≤ n ∧ i = .int .i64 ((j : Int) - 1) ∧ Below w.heap.size w wr ∧ Hid (s.value p k = ((s.log p).take j).foldl (valStep s p k) 0)) (fun i _ => (intOf i + 1).toNat)
  case atStart => exact ⟨n, Nat.le_refl _, rfl, Below.refl _ _, by show _ = _; rw [List.take_of_length_le (by rw [HL.out]; omega)]; rfl⟩
  case round =>
    obtain ⟨j, hj, rfl, hb, hv⟩ := hrel
    cases j with
    | zero =>
      go_wp2
      go_ret
      exact ⟨by rw [hv.out]; rfl, hb⟩
    | succ j =>
      have hx : (s.log p)[j]? = some ((s.log p)[j]'(by rw [HL.out]; omega)) := List.getElem?_eq_getElem _
      generalize (s.log p)[j]'(by rw [HL.out]; omega) = x at hx
      have HD := hide (value_take s (s.log p) p k j x hx)
      have hxm := HF.lt p x hp (List.mem_of_getElem? hx)
      have hR := HR.below hb
      have ho' := hR.ol p hp
      rw [hsl] at ho'
      obtain ⟨g, ha, hcap, _, hc⟩ := ho'.at (by simp; omega)
      simp only at ha hcap
      subst ha
      obtain ⟨q0, q1⟩ := recCells_get (s.log p) j x hx
      have q0 := hc _ _ q0
      have q1 := hc _ _ q1
      rw [show 2 * j = j * 2 from by omega] at q0 q1
      clear hc ho' hx ho
      rw [show (((j + 1 : Nat) : Int) - 1) = (j : Int) from by omega]
      by_cases hs3 : x.2 = 3
      · have hs : ((x.2 : Int) != 3) = false := by rw [hs3]; rfl
        have HS := hide hs3
        clear hs3
        go_wp2_with fail
        refine (nodesDeal_any hR x.1 hxm.1 hxm.2 HF.d12).mono ?_
        rintro e w1 ⟨rfl, hb1⟩
        obtain ⟨hn1, hw1⟩ := (hR.below hb1).deal x.1 hxm.1 hxm.2
        have hw6 := HF.deal x.1
        have HN1 := hide hn1
        clear hn1
        go_wp2_with fail
        refine (dealValue_any _ _ _ (s.deal x.1) p k _ (unhide HN1).symm (by rw [unhide HN1]; omega) hw1).mono ?_
        rintro e w2 ⟨rfl, hb2⟩
        have hb3 : Below w.heap.size w w2 := (hb.more hb1).more hb2
        cases hfw : findW (s.deal x.1) p k with
        | none =>
          have HW := hide hfw
          clear hfw hw6
          go_wp2
          refine ⟨⟨j, by omega, rfl, hb3, ?_⟩, by simp [intOf]⟩
          show _ = _
          rw [hv.out, unhide HD, valStep, if_pos (unhide HS), unhide HW]; rfl
        | some v =>
          have HW := hide hfw
          clear hfw hw6
          go_wp2
          go_ret
          exact ⟨by rw [hv.out, unhide HD, valStep, if_pos (unhide HS), unhide HW]; rfl, hb3⟩
      · have hs : ((x.2 : Int) != 3) = true := by rw [bne_iff_ne]; omega
        have HS := hide hs3
        clear hs3
        go_wp2
        refine ⟨⟨j, by omega, rfl, hb, ?_⟩, by simp [intOf]⟩
        show _ = _
        rw [hv.out, unhide HD, valStep, if_neg (unhide HS)]

end Go.Proofs.YtekbjlhbjcikdaaGreat
