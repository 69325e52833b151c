/-
  Walks of accordkeep's small functions: pick, member, writes.
-/
import Derived.Test.YtekbjlhbjcikdaaGreatW26
import Derived.Deep.RegionHeld3
namespace Go.Proofs.YtekbjlhbjcikdaaGreat
open Go.RowKit Acc

def pickI (c n : Int) : Int := (if c < 0 then -(c + 1) else c) % n
theorem pickI_range (c n : Int) (h : 0 < n) : 0 ≤ pickI c n ∧ pickI c n < n := ⟨Int.emod_nonneg _ (by omega), Int.emod_lt_of_pos _ h⟩

set_option maxHeartbeats 400000 in
theorem pick_any (c n : Int) (w : World) (h0 : 0 < n) (h1 : n ≤ 100000) (hc : -9223372036854775808 ≤ c) (hc' : c ≤ 9223372036854775807) :
    Calls Tryz.prog 31 #[.int .i64 c, .int .i64 n] w fun e w' => e = .returned (.int .i64 (pickI c n)) ∧ w' = w := by
  by_cases h : c < 0
  · have hp : Hid (pickI c n = -((c + 1).tmod n)) := by
      show _ = _
      unfold pickI
      rw [if_pos h, ← Int.neg_tmod, Int.tmod_eq_emod_of_nonneg (by omega)]
    go_enter Tryz.func31, Tryz.ntmps31
    go_wp2
    go_ret
    exact ⟨by rw [hp.out]; rfl, rfl⟩
  · have hp : Hid (pickI c n = c % n) := by
      show _ = _
      unfold pickI
      rw [if_neg h]
    go_enter Tryz.func31, Tryz.ntmps31
    go_wp2
    go_ret
    exact ⟨by rw [hp.out]; rfl, rfl⟩

set_option maxHeartbeats 400000 in
theorem member_any (a : Option Addr) (n cap : Nat) (ws : List Wr) (p : Int) (w : World) (hn : ws.length = n) (hm : n ≤ 1000000) (hw : WrAt w a ws) :
    Calls Tryz.prog 27 #[.slice a n cap, .int .i64 p] w fun e w' => e = .returned (.bool (hasPart ws p)) ∧ w' = w := by
  have HN := hide hn
  clear hn
  go_enter Tryz.func27, Tryz.ntmps27
  go_wp2
  go_loop [5] (fun i => ∃ j : Nat, j ≤ n ∧ i = .int .i64 j ∧ Hid (hasPart ws p = hasPart (ws.drop j) p)) (fun i => n - (intOf i).toNat)
  case atStart => exact ⟨0, by omega, rfl, by simp [Hid]⟩
  case round =>
    obtain ⟨j, hj, rfl, hf⟩ := hrel
    by_cases hlt : j < n
    · have hx : ws[j]? = some (ws[j]'(by rw [unhide HN]; exact hlt)) := List.getElem?_eq_getElem _
      have hd := hasPart_drop ws p j _ hx
      generalize ws[j]'(by rw [unhide HN]; exact hlt) = x at hx hd
      rcases hw with h | ⟨g, o, ha, hg, hc⟩
      · simp [h] at hx
      · subst ha
        obtain ⟨c0, c1, c2⟩ := hc j x hx
        clear hc hx
        have HD := hide hd
        clear hd
        by_cases hp : x.part = p
        · have hp2 : (x.part == p) = true := by simpa using hp
          have HP := hide hp
          clear hp
          go_wp2
          go_ret
          refine ⟨?_, rfl⟩
          rw [hf.out, unhide HD, unhide HP]
          simp
        · have hp2 : (x.part == p) = false := by simpa using hp
          have HP := hide hp
          clear hp
          go_wp2
          refine ⟨⟨j + 1, by omega, by go_num, ?_⟩, by simp [intOf]; omega⟩
          show _ = _
          rw [hf.out, unhide HD]
          simp [unhide HP]
    · go_wp2
      go_ret
      refine ⟨?_, rfl⟩
      rw [hf.out, List.drop_of_length_le (by rw [unhide HN]; omega)]
      rfl

theorem tdiv3_range (c : Int) (hc : -9223372036854775808 ≤ c) (hc' : c ≤ 9223372036854775807) : -9223372036854775808 ≤ c.tdiv 3 ∧ c.tdiv 3 ≤ 9223372036854775807 := by
  by_cases h : 0 ≤ c
  · rw [Int.tdiv_eq_ediv_of_nonneg h]; omega
  · have e : c.tdiv 3 = -((-c).tdiv 3) := by rw [Int.neg_tdiv, Int.neg_neg]
    rw [e, Int.tdiv_eq_ediv_of_nonneg (by omega)]; omega

theorem pick_tdiv (c : Int) (w : World) (hc : -9223372036854775808 ≤ c) (hc' : c ≤ 9223372036854775807) :
    Calls Tryz.prog 31 #[.int .i64 (IntKind.i64.wrap (c.tdiv 3)), .int .i64 2] w fun e w' => e = .returned (.int .i64 (pickI (c.tdiv 3) 2)) ∧ w' = w := by
  have td := tdiv3_range c hc hc'
  have e : IntKind.i64.wrap (c.tdiv 3) = c.tdiv 3 := by rw [IntKind.wrap_i64]; omega
  rw [e]
  exact pick_any (c.tdiv 3) 2 w (by omega) (by omega) td.1 td.2

def wx (r A : Int) : Wr := ⟨1 + pickI r 3, pickI (r.tdiv 3) 2, 2 + pickI A 1000⟩
def addW (l : List Wr) (x : Wr) : List Wr := if hasPart l x.part then l else l ++ [x]
def writes0 (A C : Int) : List Wr := [⟨1 + pickI A 3, pickI (A.tdiv 3) 2, 1 + pickI C 1000⟩]
def writesTo (A B C : Int) : Nat → List Wr
  | 0 => writes0 A C
  | 1 => addW (writes0 A C) (wx B A)
  | _ => addW (addW (writes0 A C) (wx B A)) (wx C A)
def writesOf (A B C : Int) : List Wr := writesTo A B C 2

theorem hasPart_append (a b : List Wr) (p : Int) : hasPart (a ++ b) p = (hasPart a p || hasPart b p) := by
  induction a with
  | nil => simp [hasPart]
  | cons x r ih => simp [hasPart, ih, Bool.or_assoc]
theorem hasPart_take (ws : List Wr) (p : Int) (i : Nat) (x : Wr) (h : ws[i]? = some x) : hasPart (ws.take (i + 1)) p = (hasPart (ws.take i) p || decide (x.part = p)) := by
  rw [List.take_add_one, h, hasPart_append]; simp [hasPart]
theorem writesTo_len (A B C : Int) (j : Nat) (hj : j ≤ 2) : (writesTo A B C j).length ≤ j + 1 ∧ 1 ≤ (writesTo A B C j).length := by
  match j, hj with
  | 0, _ => simp [writesTo, writes0]
  | 1, _ => simp only [writesTo, addW]; split <;> simp [writes0]
  | 2, _ =>
    have h1 : (addW (writes0 A C) (wx B A)).length ≤ 2 ∧ 1 ≤ (addW (writes0 A C) (wx B A)).length := by simp only [addW]; split <;> simp [writes0]
    generalize hl : addW (writes0 A C) (wx B A) = l at h1
    show (addW (addW (writes0 A C) (wx B A)) (wx C A)).length ≤ 3 ∧ _
    simp only [writesTo, hl]
    unfold addW
    split
    · omega
    · simp; omega

end Go.Proofs.YtekbjlhbjcikdaaGreat
