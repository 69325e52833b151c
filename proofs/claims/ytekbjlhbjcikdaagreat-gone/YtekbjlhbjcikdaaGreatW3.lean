/-
  Walks of the functions of package nodes that only read.
-/
import Derived.Test.YtekbjlhbjcikdaaGreatW1
namespace Go.Proofs.YtekbjlhbjcikdaaGreat
open Go.RowKit Acc

theorem Owns.wrAt {w : World} {e : Nat} {s : Sl} {ws : List Wr} (h : Owns w e 3 s (wrCells ws)) : s.n = ws.length ∧ WrAt w s.a ws := by
  have hl := h.len
  rw [wrCells_length] at hl
  refine ⟨by omega, ?_⟩
  by_cases h0 : 0 < s.n
  · obtain ⟨g, ha, _, _, hc⟩ := h.at h0
    refine .inr ⟨g, 0, ha, h.lt _ ha, fun i x hx => ?_⟩
    obtain ⟨c0, c1, c2⟩ := wrCells_get ws i x hx
    refine ⟨?_, ?_, ?_⟩
    · rw [show 0 + i * 3 = 3 * i from by omega]; exact hc _ _ c0
    · rw [show 0 + i * 3 + 1 = 3 * i + 1 from by omega]; exact hc _ _ c1
    · rw [show 0 + i * 3 + 2 = 3 * i + 2 from by omega]; exact hc _ _ c2
  · exact .inl (List.eq_nil_of_length_eq_zero (by omega))

theorem stOf_take (l : List (Nat × Nat)) (t i : Nat) (x : Nat × Nat) (h : l[i]? = some x) : stOf (l.take (i + 1)) t = if x.1 = t then x.2 else stOf (l.take i) t := by
  rw [List.take_add_one, h]
  exact stOf_snoc _ _ _

set_option maxRecDepth 100000 in
set_option maxHeartbeats 1000000 in
theorem nodesState_core (w : World) (nb ab nn node : Nat) (trans : Nat) (l : List (Nat × Nat)) (a : Option Addr) (n cap : Nat)
    (h0 : w.cell? ⟨nb, 0, none⟩ = some (.slice (some ⟨ab, 0, none⟩) nn nn)) (hn : node < nn) (_hnn : nn ≤ 6)
    (h1 : w.cell? ⟨ab, node * 4, none⟩ = some (.slice a n cap)) (hown : Owns w 43 2 ⟨a, n, cap⟩ (recCells l)) (hlen : n ≤ 1000000) :
    Calls Tryz.prog 50 #[.pointer (some ⟨nb, 0, none⟩), .int .i64 node, .int .i64 trans] w fun e w' => e = .returned (.int .i64 (stOf l trans)) ∧ w' = w := by
  have HL : Hid (l.length = n) := by show _ = _; have := hown.len; rw [recCells_length] at this; simp at this; omega
  go_enter Tryz.func50, Tryz.ntmps50
  go_wp2
  go_loop [8] (fun i => ∃ j : Nat, j ≤ n ∧ i = .int .i64 ((j : Int) - 1) ∧ Hid (stOf l trans = stOf (l.take j) trans)) (fun i => (intOf i + 1).toNat)
  case atStart => exact ⟨n, Nat.le_refl _, rfl, by show _ = _; rw [List.take_of_length_le (by rw [HL.out]; omega)]⟩
  case round =>
    obtain ⟨j, hj, rfl, hf⟩ := hrel
    cases j with
    | zero =>
      go_wp2
      go_ret
      exact ⟨by rw [hf.out]; rfl, rfl⟩
    | succ j =>
      have hx : l[j]? = some (l[j]'(by rw [HL.out]; omega)) := List.getElem?_eq_getElem _
      generalize l[j]'(by rw [HL.out]; omega) = x at hx
      have hd := stOf_take l trans j x hx
      obtain ⟨g, ha, hcap, _, hc⟩ := hown.at (by simp; omega)
      simp only at ha hcap
      subst ha
      obtain ⟨c0, c1⟩ := recCells_get l j x hx
      have c0 := hc _ _ c0
      have c1 := hc _ _ c1
      rw [show 2 * j = j * 2 from by omega] at c0 c1
      clear hc hown hx
      have HD : Hid _ := hd
      clear hd
      rw [show (((j + 1 : Nat) : Int) - 1) = (j : Int) from by omega]
      by_cases hp : x.1 = trans
      · have hp2 : ((x.1 : Int) == (trans : Int)) = true := by rw [hp]; simp
        have HP : Hid _ := hp
        clear hp
        go_wp2
        go_ret
        exact ⟨by rw [hf.out, HD.out, if_pos HP.out]; rfl, rfl⟩
      · have hp2 : ((x.1 : Int) == (trans : Int)) = false := by
          rw [beq_eq_false_iff_ne]; intro h; exact hp (by exact_mod_cast h)
        have HP : Hid _ := hp
        clear hp
        go_wp2
        refine ⟨⟨j, by omega, rfl, ?_⟩, by simp [intOf]⟩
        show _ = _
        rw [hf.out, HD.out, if_neg HP.out]

theorem nodesState_any {w : World} {L : Lay} {s : St} (h : Rep w L s) (node trans : Nat) (hn : node ≤ s.parts) (hp : s.parts ≤ 5) (hl : (s.log node).length ≤ 1000000) :
    Calls Tryz.prog 50 #[.pointer (some ⟨L.nb, 0, none⟩), .int .i64 node, .int .i64 trans] w fun e w' => e = .returned (.int .i64 (s.state node trans)) ∧ w' = w := by
  have ho := h.ol node hn
  have hlen := ho.len
  rw [recCells_length] at hlen
  exact nodesState_core w L.nb L.ab (s.parts + 1) node trans (s.log node) (L.lv node).a (L.lv node).n (L.lv node).cap h.c0 (by omega) (by omega) (h.ca node hn) ho (by omega)

set_option maxRecDepth 100000 in
set_option maxHeartbeats 1000000 in
theorem nodesDeal_core (w : World) (nb dn dcap db : Nat) (trans : Nat) (a : Option Addr) (n cap : Nat) (h1 : w.cell? ⟨nb, 1, none⟩ = some (.slice (some ⟨db, 0, none⟩) dn dcap)) (ht : 1 ≤ trans) (ht' : trans ≤ dn) (hdn : dn ≤ 1000000)
    (hc : w.cell? ⟨db, trans - 1, none⟩ = some (.slice a n cap)) :
    Calls Tryz.prog 90 #[.pointer (some ⟨nb, 0, none⟩), .int .i64 trans] w fun e w' => e = .returned (.agg #[.slice a n cap]) ∧ Below w.heap.size w w' := by
  obtain ⟨t, rfl⟩ : ∃ t, trans = t + 1 := ⟨trans - 1, by omega⟩
  simp only [Nat.add_sub_cancel] at hc
  have e1 : (((t + 1 : Nat) : Int) - 1) = (t : Int) := by omega
  have hnb : nb < w.heap.size := World.block_lt_of_cell? w _ h1
  have hdb : db < w.heap.size := World.block_lt_of_cell? w _ hc
  go_enter Tryz.func90, Tryz.ntmps90
  go_wp2
  exact bodyPost_ret (v := .agg #[.slice a n cap]) (by simp [results, Tryz.results90, go_sem]) rfl ⟨rfl, below_alloc _ _⟩

theorem nodesDeal_any {w : World} {L : Lay} {s : St} (h : Rep w L s) (trans : Nat) (h1 : 1 ≤ trans) (h2 : trans ≤ s.deals.length) (hd : s.deals.length ≤ 12) :
    Calls Tryz.prog 90 #[.pointer (some ⟨L.nb, 0, none⟩), .int .i64 trans] w fun e w' => e = .returned (.agg #[.slice (L.dl (trans - 1)).a (L.dl (trans - 1)).n (L.dl (trans - 1)).cap]) ∧ Below w.heap.size w w' := by
  have hl := h.od.len
  rw [slCells_length] at hl
  obtain ⟨g, ha, _, _, hc⟩ := h.od.at (by omega)
  have c1 := h.c1
  rw [ha] at c1
  exact nodesDeal_core w L.nb L.dv.n L.dv.cap g trans _ _ _ c1 h1 (by omega) (by omega) (hc _ _ (slCells_get _ _ _ (by omega)))

end Go.Proofs.YtekbjlhbjcikdaaGreat
