/-
  accordlaw: step, whatever the kind up to 15; walk of played.
-/
import Derived.Test.YtekbjlhbjcikdaaGreatML12
import Derived.Test.YtekbjlhbjcikdaaGreatML13
import Derived.Test.YtekbjlhbjcikdaaGreatML14
namespace Go.Proofs.YtekbjlhbjcikdaaGreat
open Go.RowKit Acc

def inR (x : Int) : Prop := -9223372036854775808 ≤ x ∧ x ≤ 9223372036854775807
/-- The writes of a step, as they lie in memory. -/
def WrsAt (w : World) (wa : Option Addr) (wn wc : Nat) : Prop := ∃ ws : List Wr, ws.length = wn ∧ wn ≤ 2000000 ∧ wn ≤ wc ∧ WrAt w wa ws ∧ (∀ x, wa = some x → ws ≠ [] → x.block < w.heap.size) ∧ (wa = none → wn = 0 ∧ wc = 0)

theorem step_any {w : World} {G : LLay} {S : LSt} {N B : Nat} (h : LRep w G S) (hi : LInv S N B) (hN : N + 4 ≤ 8000000) (hB : B ≤ 8000000) (K W A Bv : Int) (hK : K ≤ 15) (hW : inR W) (hBv : inR Bv) (wa : Option Addr) (wn wc : Nat) (hw : WrsAt w wa wn wc) (hf : ∀ x, wa = some x → wn ≠ 0 → G.own x.block = none) :
    Calls Tryz.prog 35 #[.pointer (some ⟨G.lb, 0, none⟩), .agg #[.int .i64 K, .int .i64 W, .int .i64 A, .int .i64 Bv, .slice wa wn wc]] w fun e w' => e = .returned (.bool true) ∧ SOut G w S N B w' := by
  have hb2 : Bv < 9223372036854775808 := by have := hBv.2; omega
  by_cases h0 : K ≤ 0
  · exact step_other h hi hN hB W A Bv hW hb2 wa wn wc K h0
  · have hc : K = 1 ∨ K = 2 ∨ K = 3 ∨ K = 4 ∨ K = 5 ∨ K = 6 ∨ K = 7 ∨ K = 8 ∨ K = 9 ∨ K = 10 ∨ K = 11 ∨ K = 12 ∨ K = 13 ∨ K = 14 ∨ K = 15 := by omega
    rcases hc with rfl | rfl | rfl | rfl | rfl | rfl | rfl | rfl | rfl | rfl | rfl | rfl | rfl | rfl | rfl
    · by_cases hA : 1 ≤ A ∧ A ≤ 5
      · obtain ⟨p, rfl⟩ : ∃ p : Nat, A = p := ⟨A.toNat, by omega⟩
        exact step_New h hi.sync hi.ok hN W Bv p (by omega) (by omega) wa wn wc
      · exact step_NewNot h hi hN W A Bv hA wa wn wc
    · obtain ⟨ws, e1, e2, e3, e4, e5, e6⟩ := hw
      exact step_Begin h hi hN hB W A Bv hW hb2 wa wn wc ws e1 e2 e3 e4 (fun x hx hne => ⟨hf x hx (by rw [← e1]; exact fun e => hne (List.eq_nil_of_length_eq_zero e)), e5 x hx hne⟩) e6
    · exact step_Deliver h hi hN hB W A Bv hW hb2 wa wn wc
    · exact step_Flying h hi hN hB W A Bv hW hb2 wa wn wc
    · exact step_Log h hi hN hB W A Bv hW hb2 wa wn wc
    · exact step_State h hi hN hB W A Bv hW hb2 wa wn wc
    · exact step_Value h hi hN hB W A Bv hW hb2 wa wn wc
    · exact step_Holder h hi hN hB W A Bv hW hb2 wa wn wc
    · exact step_Drop h hi hN hB W A Bv hW hb2 wa wn wc
    · exact step_Double h hi hN hB W A Bv hW hb2 wa wn wc
    · exact step_Tick h hi hN hB W A Bv hW hb2 wa wn wc
    · exact step_Crash h hi hN hB W A Bv hW hb2 wa wn wc
    · exact step_Fuse h hi hN hB W A Bv hW hb2 wa wn wc
    · exact step_Recover h hi hN hB W A Bv hW hb2 wa wn wc
    · exact step_Up h hi hN hB W A Bv hW hb2 wa wn wc

/-- A script of steps, as it lies in memory. -/
def ScriptAt (w : World) (a : Option Addr) (n : Nat) : Prop :=
  n = 0 ∨ ∃ g o, a = some ⟨g, o, none⟩ ∧ g < w.heap.size ∧ ∀ i, i < n → ∃ K W A Bv wa wn wc, w.cell? ⟨g, o + i * 5, none⟩ = some (.int .i64 K) ∧ w.cell? ⟨g, o + i * 5 + 1, none⟩ = some (.int .i64 W) ∧ w.cell? ⟨g, o + i * 5 + 2, none⟩ = some (.int .i64 A) ∧ w.cell? ⟨g, o + i * 5 + 3, none⟩ = some (.int .i64 Bv) ∧ w.cell? ⟨g, o + i * 5 + 4, none⟩ = some (.slice wa wn wc) ∧
    inR W ∧ inR Bv ∧ WrsAt w wa wn wc

def S0 : LSt := ⟨[], [], [], 0, [], []⟩
def G0 (b : Nat) : LLay := ⟨b, fun _ => ⟨none, 0, 0⟩, fun _ => ⟨0, 0, 0, fun _ => ⟨none, 0, 0⟩, ⟨none, 0, 0⟩, fun _ => ⟨none, 0, 0⟩, ⟨none, 0, 0⟩, fun _ => none⟩, fun _ => ⟨0, 0, 0, fun _ => ⟨none, 0, 0⟩, fun _ => ⟨none, 0, 0⟩, ⟨none, 0, 0⟩, fun _ => ⟨none, 0, 0⟩, ⟨none, 0, 0⟩, fun _ => none⟩, fun _ => ⟨none, 0, 0⟩, fun _ => ⟨none, 0, 0⟩, fun _ => ⟨none, 0, 0⟩, fun k => if k = b then some .main else none⟩
theorem LRep.init {w : World} {b : Nat} (hc : ∀ k, k < 6 → w.cell? ⟨b, k, none⟩ = some (.slice none 0 0)) (hz : ∀ k, w.frozen? ⟨b, k, none⟩ = false) : LRep w (G0 b) S0 := by
  refine ⟨fun k hk => hc k hk, hz, fun k hk => ?_, fun i p hp => (by simp [S0] at hp), fun i p hp => (by simp [S0] at hp), fun i m hm => (by simp [S0] at hm), fun i m hm => (by simp [S0] at hm), fun i hi => absurd hi (by simp [S0]), (by simp [G0]), fun k hk a ha => (by cases ha), fun i p b t hp => (by simp [S0] at hp), fun i p b t hp => (by simp [S0] at hp), fun i m hm => (by simp [S0] at hm), fun i m hm => (by simp [S0] at hm), fun i hi => absurd hi (by simp [S0]), ?_⟩
  · have hcont : cont (G0 b) S0 k = [] := by
      match k with
      | 0 => rfl
      | 1 => rfl
      | 2 => rfl
      | 3 => rfl
      | 4 => rfl
      | k + 5 => rfl
    rw [hcont]
    exact World.ownsRow_nil _ _ _ _
  · intro c t hct
    simp only [G0] at hct
    split at hct
    · rename_i e; rw [e]; exact World.block_lt_of_cell? w _ (hc 0 (by omega))
    · cases hct

/-- What played keeps from step to step. -/
def PK (w : World) (lb : Nat) (N B : Nat) (wr : World) : Prop := ∃ G S, G.lb = lb ∧ LRep wr G S ∧ LInv S N B ∧ Ext (fun _ => none) w G.own wr
theorem SOut.pk {w w1 w2 : World} {G : LLay} {S : LSt} {N B : Nat} (he : Ext (fun _ => none) w G.own w1) (h : SOut G w1 S N B w2) : PK w G.lb (N + 4) (B + 1) w2 := by
  obtain ⟨S', ⟨G', e, hR, hE⟩, hi⟩ := h
  exact ⟨G', S', e, hR, hi, he.trans hE⟩

set_option maxRecDepth 100000 in
set_option maxHeartbeats 2000000 in
theorem played_any (w : World) (a : Option Addr) (n cap : Nat) (hn : n ≤ 1100000) (_hcap : n ≤ cap) (hs : ScriptAt w a n) (last : Int) (hl : last ≤ 15) :
    Calls Tryz.prog 13 #[.slice a n cap, .int .i64 last] w fun e w' => e = .returned (.bool true) ∧ Below w.heap.size w w' := by
  have hbA := below_alloc w (Obj.cells #[.slice none 0 0, .slice none 0 0, .slice none 0 0, .slice none 0 0, .slice none 0 0, .slice none 0 0] 69)
  go_enter Tryz.func13, Tryz.ntmps13
  go_wp2_with fail
  have hc : ∀ k, k < 6 → (w.alloc (Obj.cells #[.slice none 0 0, .slice none 0 0, .slice none 0 0, .slice none 0 0, .slice none 0 0, .slice none 0 0] 69)).cell? ⟨w.heap.size, k, none⟩ = some (.slice none 0 0) := by
    intro k hk
    match k, hk with
    | 0, _ => simp [go_sem]
    | 1, _ => simp [go_sem]
    | 2, _ => simp [go_sem]
    | 3, _ => simp [go_sem]
    | 4, _ => simp [go_sem]
    | 5, _ => simp [go_sem]
    | k + 6, hk => omega
  have hz : ∀ k, (w.alloc (Obj.cells #[.slice none 0 0, .slice none 0 0, .slice none 0 0, .slice none 0 0, .slice none 0 0, .slice none 0 0] 69)).frozen? ⟨w.heap.size, k, none⟩ = false := by intro k; simp [go_sem]
  have hR0 := LRep.init hc hz
  have hE0 : Ext (fun _ => none) w (G0 w.heap.size).own (w.alloc (Obj.cells #[.slice none 0 0, .slice none 0 0, .slice none 0 0, .slice none 0 0, .slice none 0 0, .slice none 0 0] 69)) :=
    ⟨hbA.os, hbA.tape, hbA.output, hbA.size, fun b hb _ => ⟨hbA.block b hb, by simp only [G0]; rw [if_neg (by omega)]⟩⟩
  generalize w.alloc (Obj.cells #[.slice none 0 0, .slice none 0 0, .slice none 0 0, .slice none 0 0, .slice none 0 0, .slice none 0 0] 69) = wA at *
  have H1 := hide (step_New (N := 0) (B := 0) hR0 ⟨rfl, rfl, Nat.le_refl _, Nat.le_refl _, Nat.le_refl _, Nat.le_refl _, by omega⟩ (fun i p hp => by simp [S0] at hp) (by omega) 0 0 2 (by omega) (by omega) none 0 0)
  refine (unhide H1).mono ?_
  rintro e w1 ⟨rfl, hs1⟩
  obtain ⟨G1, S1, e1, hR1, hi1, hE1⟩ := hs1.pk hE0
  have e1 : G1.lb = w.heap.size := e1
  clear H1 hs1 hR0 hc hz
  have hb2 := below_alloc w1 (Obj.cells #[.int .i64 1, .int .i64 0, .int .i64 5, .int .i64 2, .int .i64 3, .int .i64 7] 74)
  have hw2 : WrsAt (w1.alloc (Obj.cells #[.int .i64 1, .int .i64 0, .int .i64 5, .int .i64 2, .int .i64 3, .int .i64 7] 74)) (some ⟨w1.heap.size, 0, none⟩) 2 2 := by
    refine ⟨[⟨1, 0, 5⟩, ⟨2, 3, 7⟩], rfl, by omega, by omega, .inr ⟨w1.heap.size, 0, rfl, by simp, ?_⟩, fun x hx _ => by simp only [Option.some.injEq] at hx; subst hx; simp, fun hh => by cases hh⟩
    intro i x hx
    match i, hx with
    | 0, hx => simp at hx; subst hx; simp [go_sem]
    | 1, hx => simp at hx; subst hx; simp [go_sem]
    | i + 2, hx => simp at hx
  have H2 := step_any (hR1.below hb2) hi1 (by omega) (by omega) 2 0 0 0 (by omega) ⟨by omega, by omega⟩ ⟨by omega, by omega⟩ (some ⟨w1.heap.size, 0, none⟩) 2 2 hw2 (fun x hx _ => by simp only [Option.some.injEq] at hx; subst hx; exact hR1.free (Nat.le_refl _))
  rw [e1] at H2
  have H2 := hide H2
  go_wp2_with fail
  refine (unhide H2).mono ?_
  rintro e w3 ⟨rfl, hs3⟩
  have hP3 := hs3.pk (hE1.trans (Ext.of_below hb2))
  rw [e1] at hP3
  clear H2 hs3 hR1 hE1 hw2
  go_wp2_with fail
  go_loopw [6, 7] (fun ok i wr => ∃ j : Nat, j ≤ n ∧ i = .int .i64 (j : Int) ∧ ok = .bool true ∧ PK w w.heap.size (8 + 4 * j) (2 + j) wr) (fun _ i _ => n - (intOf i).toNat)
  case atStart => exact ⟨0, Nat.zero_le _, rfl, rfl, hP3⟩
  case round =>
    obtain ⟨j, hj, rfl, rfl, G, S, eG, hR, hi, hE⟩ := hrel
    by_cases hlt : j < n
    · rcases hs with hs | ⟨g, o, rfl, hg, hop⟩
      · omega
      · obtain ⟨K, W, A, Bv, wa, wn, wc, q0, q1, q2, q3, q4, r1, r2, hwr⟩ := hop j hlt
        have hk : ∀ b, b < w.heap.size → wr.heap[b]? = w.heap[b]? ∧ G.own b = none := fun b hb => hE.keep b hb rfl
        have q0 := (World.cell?_of_block (a := ⟨g, o + j * 5, none⟩) (hk g hg).1).trans q0
        have q1 := (World.cell?_of_block (a := ⟨g, o + j * 5 + 1, none⟩) (hk g hg).1).trans q1
        have q2 := (World.cell?_of_block (a := ⟨g, o + j * 5 + 2, none⟩) (hk g hg).1).trans q2
        have q3 := (World.cell?_of_block (a := ⟨g, o + j * 5 + 3, none⟩) (hk g hg).1).trans q3
        have q4 := (World.cell?_of_block (a := ⟨g, o + j * 5 + 4, none⟩) (hk g hg).1).trans q4
        have hji : (j : Int) < (n : Int) := by omega
        have HLK := hide (fun W lb N B (hp : PK w lb N B W) => (show Calls Tryz.prog 36 #[.pointer (some ⟨lb, 0, none⟩)] W (fun e w' => e = .returned (.bool true) ∧ PK w lb N B w') from by
          obtain ⟨G', S', e', hR', hi', hE'⟩ := hp
          subst e'
          refine (looks_any hR' hi'.sync).mono ?_
          rintro e w' ⟨rfl, hb⟩
          exact ⟨rfl, G', S', rfl, hR'.below hb, hi', hE'.trans (Ext.of_below hb)⟩))
        by_cases hKl : K ≤ last
        · have hwr' : WrsAt wr wa wn wc := by
            obtain ⟨ws, t1, t2, t3, t4, t5, t6⟩ := hwr
            exact ⟨ws, t1, t2, t3, t4.frame hE.size (fun x hx hne => (hk x.block (t5 x hx hne)).1), fun x hx hne => Nat.lt_of_lt_of_le (t5 x hx hne) hE.size, t6⟩
          have hwl : ∀ x, wa = some x → wn ≠ 0 → G.own x.block = none := by
            obtain ⟨ws, t1, t2, t3, t4, t5, t6⟩ := hwr
            exact fun x hx hne => (hk x.block (t5 x hx (fun e => hne (by rw [← t1, e]; rfl)))).2
          have HS := step_any hR hi (by omega) (by omega) K W A Bv (by omega) r1 r2 wa wn wc hwr' hwl
          rw [eG] at HS
          have HS := hide HS
          have HE := hide hE
          clear hwr hwr' hwl hop hR hi hk r1 r2
          go_wp2_with fail
          refine (unhide HS).mono ?_
          rintro e w5 ⟨rfl, hs5⟩
          have hP5 := hs5.pk (unhide HE)
          rw [eG] at hP5
          clear hs5 HS
          have hlk := hide (unhide HLK w5 _ _ _ hP5)
          clear HLK
          go_wp2_with fail
          refine (unhide hlk).mono ?_
          rintro e w6 ⟨rfl, hP6⟩
          go_wp2
          refine ⟨⟨j + 1, by omega, by go_num, rfl, ?_⟩, by simp [intOf]; omega⟩
          rw [show 8 + 4 * (j + 1) = 8 + 4 * j + 4 from by omega, show 2 + (j + 1) = 2 + j + 1 from by omega]
          exact hP6
        · have hP5 : PK w w.heap.size (8 + 4 * (j + 1)) (2 + (j + 1)) wr := ⟨G, S, eG, hR, ⟨hi.sync.mono (by omega) (by omega), fun i p hp => ⟨(hi.ok i p hp).1, (hi.ok i p hp).2.mono (by omega)⟩, hi.ne⟩, hE⟩
          have hlk := hide (unhide HLK wr _ _ _ hP5)
          clear hwr hop hR hi hk r1 r2 HLK hE hP5
          go_wp2_with fail
          refine (unhide hlk).mono ?_
          rintro e w6 ⟨rfl, hP6⟩
          go_wp2
          exact ⟨⟨j + 1, by omega, by go_num, rfl, hP6⟩, by simp [intOf]; omega⟩
    · have hji : ¬ (j : Int) < (n : Int) := by omega
      go_wp2
      go_ret
      exact ⟨rfl, hE.os, hE.tape, hE.output, hE.size, fun b hb => (hE.keep b hb rfl).1⟩
end Go.Proofs.YtekbjlhbjcikdaaGreat
