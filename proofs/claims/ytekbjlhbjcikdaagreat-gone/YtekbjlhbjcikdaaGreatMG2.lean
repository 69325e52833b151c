/-
  Walk of accordkeep.Gone.
-/
import Derived.Test.YtekbjlhbjcikdaaGreatGM
import Derived.Deep.RegionHeld3
import Derived.BigQuiet
import Derived.Deep.QuietTactic
namespace Go.Proofs.YtekbjlhbjcikdaaGreat
open Go.RowKit Go.Shelf Acc Go.MuLone

attribute [local go_sem] Oper.semAt_some

/-- The frame between two goings through. -/
def goneFr (ra : Option Addr) (rn rc : Nat) (early : Int) (wh br i : Nat) (t : Array Value) (ds : List Nat) : Act :=
  { tmps := #[.slice ra rn rc, .int .i64 early, t.getD 2 undef, t.getD 3 undef, .pointer (some ⟨wh, 0, none⟩), t.getD 5 undef, .pointer (some ⟨br, 0, none⟩), .func (.func 62) #[] #[.pointer (some ⟨br + 1, 0, none⟩)], t.getD 8 undef, t.getD 9 undef, .int .i64 (i : Int), t.getD 11 undef, t.getD 12 undef, t.getD 13 undef, t.getD 14 undef, t.getD 15 undef, t.getD 16 undef, t.getD 17 undef, t.getD 18 undef, t.getD 19 undef, t.getD 20 undef, t.getD 21 undef, t.getD 22 undef, t.getD 23 undef, t.getD 24 undef, t.getD 25 undef, t.getD 26 undef, t.getD 27 undef, t.getD 28 undef, t.getD 29 undef, t.getD 30 undef, t.getD 31 undef, t.getD 32 undef, t.getD 33 undef, t.getD 34 undef, t.getD 35 undef, t.getD 36 undef, t.getD 37 undef, t.getD 38 undef, t.getD 39 undef, t.getD 40 undef, t.getD 41 undef, t.getD 42 undef, t.getD 43 undef, t.getD 44 undef, t.getD 45 undef, t.getD 46 undef, t.getD 47 undef, t.getD 48 undef, t.getD 49 undef, t.getD 50 undef, t.getD 51 undef, t.getD 52 undef, t.getD 53 undef, t.getD 54 undef, t.getD 55 undef, t.getD 56 undef, t.getD 57 undef, t.getD 58 undef, t.getD 59 undef, t.getD 60 undef, t.getD 61 undef, t.getD 62 undef, t.getD 63 undef, t.getD 64 undef, t.getD 65 undef, t.getD 66 undef, t.getD 67 undef, t.getD 68 undef, t.getD 69 undef, t.getD 70 undef, t.getD 71 undef, t.getD 72 undef, t.getD 73 undef, t.getD 74 undef, t.getD 75 undef, t.getD 76 undef, t.getD 77 undef, t.getD 78 undef, t.getD 79 undef, t.getD 80 undef, t.getD 81 undef, t.getD 82 undef, t.getD 83 undef, t.getD 84 undef, t.getD 85 undef, t.getD 86 undef, t.getD 87 undef, t.getD 88 undef, t.getD 89 undef, t.getD 90 undef, t.getD 91 undef, t.getD 92 undef, t.getD 93 undef, t.getD 94 undef, t.getD 95 undef, t.getD 96 undef, t.getD 97 undef, t.getD 98 undef, t.getD 99 undef, t.getD 100 undef, t.getD 101 undef, t.getD 102 undef, t.getD 103 undef, t.getD 104 undef, t.getD 105 undef, t.getD 106 undef, t.getD 107 undef, t.getD 108 undef, t.getD 109 undef, t.getD 110 undef, t.getD 111 undef, t.getD 112 undef, t.getD 113 undef], defers := ds.map fun D => { target := .collected D, args := #[] } }
theorem goneFr_mk {ra : Option Addr} {rn rc : Nat} {early : Int} {wh br i : Nat} {t : Array Value} {ds : List Nat} {df : List Deferred} (h : ({ tmps := t, defers := df } : Act) = goneFr ra rn rc early wh br i t ds) : ∃ t', ({ tmps := t, defers := df } : Act) = goneFr ra rn rc early wh br i t' ds := ⟨t, h⟩

/-- The frame behind a going through. -/
def goneEn (ra : Option Addr) (rn rc : Nat) (early : Int) (wh br n1 i : Nat) (t : Array Value) (ds : List Nat) : Act :=
  { tmps := #[.slice ra rn rc, .int .i64 early, t.getD 2 undef, t.getD 3 undef, .pointer (some ⟨wh, 0, none⟩), t.getD 5 undef, .pointer (some ⟨br, 0, none⟩), .func (.func 62) #[] #[.pointer (some ⟨br + 1, 0, none⟩)], t.getD 8 undef, t.getD 9 undef, .int .i64 (i : Int), .pointer (some ⟨n1, 0, none⟩), .pointer (some ⟨n1 + 1, 0, none⟩), t.getD 13 undef, .pointer (some ⟨n1 + 1 + 1, 0, none⟩), .pointer (some ⟨n1 + 1 + 1 + 1, 0, none⟩), t.getD 16 undef, t.getD 17 undef, t.getD 18 undef, t.getD 19 undef, t.getD 20 undef, t.getD 21 undef, t.getD 22 undef, t.getD 23 undef, t.getD 24 undef, t.getD 25 undef, t.getD 26 undef, t.getD 27 undef, t.getD 28 undef, t.getD 29 undef, t.getD 30 undef, t.getD 31 undef, t.getD 32 undef, t.getD 33 undef, t.getD 34 undef, t.getD 35 undef, t.getD 36 undef, t.getD 37 undef, t.getD 38 undef, t.getD 39 undef, t.getD 40 undef, t.getD 41 undef, t.getD 42 undef, t.getD 43 undef, t.getD 44 undef, t.getD 45 undef, t.getD 46 undef, t.getD 47 undef, t.getD 48 undef, t.getD 49 undef, t.getD 50 undef, t.getD 51 undef, t.getD 52 undef, t.getD 53 undef, t.getD 54 undef, t.getD 55 undef, t.getD 56 undef, t.getD 57 undef, t.getD 58 undef, t.getD 59 undef, t.getD 60 undef, t.getD 61 undef, t.getD 62 undef, t.getD 63 undef, t.getD 64 undef, t.getD 65 undef, t.getD 66 undef, t.getD 67 undef, t.getD 68 undef, t.getD 69 undef, t.getD 70 undef, t.getD 71 undef, t.getD 72 undef, t.getD 73 undef, t.getD 74 undef, t.getD 75 undef, t.getD 76 undef, t.getD 77 undef, t.getD 78 undef, t.getD 79 undef, t.getD 80 undef, t.getD 81 undef, t.getD 82 undef, t.getD 83 undef, t.getD 84 undef, t.getD 85 undef, t.getD 86 undef, t.getD 87 undef, t.getD 88 undef, t.getD 89 undef, t.getD 90 undef, t.getD 91 undef, t.getD 92 undef, t.getD 93 undef, t.getD 94 undef, t.getD 95 undef, t.getD 96 undef, t.getD 97 undef, t.getD 98 undef, t.getD 99 undef, t.getD 100 undef, t.getD 101 undef, t.getD 102 undef, t.getD 103 undef, t.getD 104 undef, t.getD 105 undef, t.getD 106 undef, t.getD 107 undef, t.getD 108 undef, t.getD 109 undef, t.getD 110 undef, t.getD 111 undef, t.getD 112 undef, t.getD 113 undef], defers := ds.map fun D => { target := .collected D, args := #[] } }
theorem goneEn_mk {ra : Option Addr} {rn rc : Nat} {early : Int} {wh br n1 i : Nat} {t : Array Value} {ds : List Nat} {df : List Deferred} (h : ({ tmps := t, defers := df } : Act) = goneEn ra rn rc early wh br n1 i t ds) : ∃ t', ({ tmps := t, defers := df } : Act) = goneEn ra rn rc early wh br n1 i t' ds := ⟨t, h⟩
/-- The frame of a round. -/
def goneBd (wh br n1 : Nat) (x : Nat × (Nat × Nat)) (Bx : Nat) (t : Array Value) : Act :=
  { tmps := #[t.getD 0 undef, t.getD 1 undef, t.getD 2 undef, t.getD 3 undef, .pointer (some ⟨wh, 0, none⟩), t.getD 5 undef, .pointer (some ⟨br, 0, none⟩), t.getD 7 undef, t.getD 8 undef, t.getD 9 undef, t.getD 10 undef, .pointer (some ⟨n1, 0, none⟩), .pointer (some ⟨n1 + 1, 0, none⟩), t.getD 13 undef, .pointer (some ⟨n1 + 1 + 1, 0, none⟩), .pointer (some ⟨n1 + 1 + 1 + 1, 0, none⟩), .int .i64 (x.1 : Int), .pointer (some ⟨Bx, 0, none⟩), t.getD 18 undef, t.getD 19 undef, t.getD 20 undef, t.getD 21 undef, t.getD 22 undef, t.getD 23 undef, t.getD 24 undef, t.getD 25 undef, t.getD 26 undef, t.getD 27 undef, t.getD 28 undef, t.getD 29 undef, t.getD 30 undef, t.getD 31 undef, t.getD 32 undef, t.getD 33 undef, t.getD 34 undef, t.getD 35 undef, t.getD 36 undef, t.getD 37 undef, t.getD 38 undef, t.getD 39 undef, t.getD 40 undef, t.getD 41 undef, t.getD 42 undef, t.getD 43 undef, t.getD 44 undef, t.getD 45 undef, t.getD 46 undef, t.getD 47 undef, t.getD 48 undef, t.getD 49 undef, t.getD 50 undef, t.getD 51 undef, t.getD 52 undef, t.getD 53 undef, t.getD 54 undef, t.getD 55 undef, t.getD 56 undef, t.getD 57 undef, t.getD 58 undef, t.getD 59 undef, t.getD 60 undef, t.getD 61 undef, t.getD 62 undef, t.getD 63 undef, t.getD 64 undef, t.getD 65 undef, t.getD 66 undef, t.getD 67 undef, t.getD 68 undef, t.getD 69 undef, t.getD 70 undef, t.getD 71 undef, t.getD 72 undef, t.getD 73 undef, t.getD 74 undef, t.getD 75 undef, t.getD 76 undef, t.getD 77 undef, t.getD 78 undef, t.getD 79 undef, t.getD 80 undef, t.getD 81 undef, t.getD 82 undef, t.getD 83 undef, t.getD 84 undef, t.getD 85 undef, t.getD 86 undef, t.getD 87 undef, t.getD 88 undef, t.getD 89 undef, t.getD 90 undef, t.getD 91 undef, t.getD 92 undef, t.getD 93 undef, t.getD 94 undef, t.getD 95 undef, t.getD 96 undef, t.getD 97 undef, t.getD 98 undef, t.getD 99 undef, t.getD 100 undef, t.getD 101 undef, t.getD 102 undef, t.getD 103 undef, t.getD 104 undef, t.getD 105 undef, t.getD 106 undef, t.getD 107 undef, t.getD 108 undef, t.getD 109 undef, t.getD 110 undef, t.getD 111 undef, t.getD 112 undef, t.getD 113 undef], defers := [] }
theorem goneBd_mk {wh br n1 : Nat} {x : Nat × (Nat × Nat)} {Bx : Nat} {t : Array Value} {df : List Deferred} (h : ({ tmps := t, defers := df } : Act) = goneBd wh br n1 x Bx t) : ∃ t', ({ tmps := t, defers := df } : Act) = goneBd wh br n1 x Bx t' := ⟨t, h⟩

/-- The frame while the check goes on. -/
def goneCk (wh br n1 : Nat) (x : Nat × (Nat × Nat)) (Bx c m g1 d1 g2 d2 : Nat) (y : Nat × (Nat × Nat)) (b1 b2 : Bool) (t : Array Value) (l : Nat → Bool) : Act :=
  { tmps := #[t.getD 0 undef, t.getD 1 undef, t.getD 2 undef, t.getD 3 undef, .pointer (some ⟨wh, 0, none⟩), t.getD 5 undef, .pointer (some ⟨br, 0, none⟩), t.getD 7 undef, t.getD 8 undef, t.getD 9 undef, t.getD 10 undef, .pointer (some ⟨n1, 0, none⟩), .pointer (some ⟨n1 + 1, 0, none⟩), t.getD 13 undef, .pointer (some ⟨n1 + 1 + 1, 0, none⟩), .pointer (some ⟨n1 + 1 + 1 + 1, 0, none⟩), .int .i64 (x.1 : Int), .pointer (some ⟨Bx, 0, none⟩), t.getD 18 undef, t.getD 19 undef, t.getD 20 undef, t.getD 21 undef, t.getD 22 undef, t.getD 23 undef, t.getD 24 undef, t.getD 25 undef, t.getD 26 undef, t.getD 27 undef, t.getD 28 undef, t.getD 29 undef, t.getD 30 undef, t.getD 31 undef, t.getD 32 undef, t.getD 33 undef, t.getD 34 undef, t.getD 35 undef, t.getD 36 undef, t.getD 37 undef, t.getD 38 undef, t.getD 39 undef, t.getD 40 undef, t.getD 41 undef, t.getD 42 undef, t.getD 43 undef, t.getD 44 undef, t.getD 45 undef, t.getD 46 undef, t.getD 47 undef, t.getD 48 undef, t.getD 49 undef, t.getD 50 undef, t.getD 51 undef, t.getD 52 undef, t.getD 53 undef, t.getD 54 undef, t.getD 55 undef, t.getD 56 undef, t.getD 57 undef, t.getD 58 undef, t.getD 59 undef, t.getD 60 undef, t.getD 61 undef, t.getD 62 undef, t.getD 63 undef, t.getD 64 undef, t.getD 65 undef, t.getD 66 undef, t.getD 67 undef, t.getD 68 undef, t.getD 69 undef, t.getD 70 undef, t.getD 71 undef, t.getD 72 undef, t.getD 73 undef, bif l 0 then (.int .i64 (c : Int)) else t.getD 74 undef, bif l 1 then (.slice (some ⟨g2, 0, none⟩) m d2) else t.getD 75 undef, bif l 2 then (.int .i64 (m : Int)) else t.getD 76 undef, bif l 3 then (.bool false) else t.getD 77 undef, bif l 4 then (.bool false) else t.getD 78 undef, bif l 5 then (.slice (some ⟨g1, 0, none⟩) m d1) else t.getD 79 undef, bif l 6 then (.int .i64 (c : Int)) else t.getD 80 undef, bif l 7 then (.pointer (some ⟨g1, c, none⟩)) else t.getD 81 undef, bif l 8 then (.int .i64 (y.1 : Int)) else t.getD 82 undef, bif l 9 then (.int .i64 (x.1 : Int)) else t.getD 83 undef, bif l 10 then (.bool b1) else t.getD 84 undef, bif l 11 then (.bool b1) else t.getD 85 undef, bif l 12 then (.bool b1) else t.getD 86 undef, bif l 13 then (bif b1 then undef else .slice (some ⟨g2, 0, none⟩) m d2) else t.getD 87 undef, bif l 14 then (bif b1 then undef else .int .i64 (c : Int)) else t.getD 88 undef, bif l 15 then (bif b1 then undef else .pointer (some ⟨g2, c * 2, none⟩)) else t.getD 89 undef, bif l 16 then (bif b1 then undef else .agg #[.int .i64 (y.2.1 : Int), .int .i64 (y.2.2 : Int)]) else t.getD 90 undef, bif l 17 then (bif b1 then undef else .agg #[.int .i64 (x.2.1 : Int), .int .i64 (x.2.2 : Int)]) else t.getD 91 undef, bif l 18 then (bif b1 then undef else .bool b2) else t.getD 92 undef, bif l 19 then (.bool (b1 || b2)) else t.getD 93 undef, t.getD 94 undef, t.getD 95 undef, t.getD 96 undef, t.getD 97 undef, t.getD 98 undef, t.getD 99 undef, t.getD 100 undef, t.getD 101 undef, t.getD 102 undef, t.getD 103 undef, t.getD 104 undef, t.getD 105 undef, t.getD 106 undef, t.getD 107 undef, t.getD 108 undef, t.getD 109 undef, t.getD 110 undef, t.getD 111 undef, t.getD 112 undef, t.getD 113 undef], defers := [] }
/-- The frame ahead of Tick. -/
def goneTk (br n1 rb wb c : Nat) (q : Int) (t : Array Value) (l : Nat → Bool) : Act :=
  { tmps := #[t.getD 0 undef, t.getD 1 undef, t.getD 2 undef, t.getD 3 undef, t.getD 4 undef, t.getD 5 undef, .pointer (some ⟨br, 0, none⟩), t.getD 7 undef, t.getD 8 undef, t.getD 9 undef, t.getD 10 undef, t.getD 11 undef, t.getD 12 undef, t.getD 13 undef, t.getD 14 undef, .pointer (some ⟨n1 + 1 + 1 + 1, 0, none⟩), t.getD 16 undef, t.getD 17 undef, t.getD 18 undef, t.getD 19 undef, t.getD 20 undef, t.getD 21 undef, t.getD 22 undef, t.getD 23 undef, t.getD 24 undef, t.getD 25 undef, t.getD 26 undef, t.getD 27 undef, t.getD 28 undef, t.getD 29 undef, t.getD 30 undef, t.getD 31 undef, t.getD 32 undef, t.getD 33 undef, t.getD 34 undef, t.getD 35 undef, t.getD 36 undef, t.getD 37 undef, t.getD 38 undef, t.getD 39 undef, t.getD 40 undef, t.getD 41 undef, t.getD 42 undef, t.getD 43 undef, t.getD 44 undef, t.getD 45 undef, t.getD 46 undef, t.getD 47 undef, t.getD 48 undef, t.getD 49 undef, t.getD 50 undef, t.getD 51 undef, t.getD 52 undef, t.getD 53 undef, t.getD 54 undef, t.getD 55 undef, t.getD 56 undef, t.getD 57 undef, t.getD 58 undef, t.getD 59 undef, t.getD 60 undef, t.getD 61 undef, t.getD 62 undef, t.getD 63 undef, t.getD 64 undef, t.getD 65 undef, t.getD 66 undef, t.getD 67 undef, t.getD 68 undef, t.getD 69 undef, t.getD 70 undef, t.getD 71 undef, t.getD 72 undef, t.getD 73 undef, t.getD 74 undef, t.getD 75 undef, t.getD 76 undef, t.getD 77 undef, t.getD 78 undef, t.getD 79 undef, t.getD 80 undef, t.getD 81 undef, t.getD 82 undef, t.getD 83 undef, t.getD 84 undef, t.getD 85 undef, t.getD 86 undef, t.getD 87 undef, t.getD 88 undef, t.getD 89 undef, t.getD 90 undef, t.getD 91 undef, t.getD 92 undef, t.getD 93 undef, t.getD 94 undef, t.getD 95 undef, t.getD 96 undef, t.getD 97 undef, t.getD 98 undef, t.getD 99 undef, t.getD 100 undef, bif l 0 then .pointer (some ⟨rb, 0, none⟩) else t.getD 101 undef, bif l 1 then .pointer (some ⟨rb, 0, none⟩) else t.getD 102 undef, bif l 2 then .pointer (some ⟨rb, 0, none⟩) else t.getD 103 undef, bif l 3 then .pointer (some ⟨wb, 0, none⟩) else t.getD 104 undef, bif l 4 then .int .i64 ((c : Int) + 1) else t.getD 105 undef, bif l 5 then .int .i64 q else t.getD 106 undef, t.getD 107 undef, t.getD 108 undef, t.getD 109 undef, t.getD 110 undef, t.getD 111 undef, t.getD 112 undef, t.getD 113 undef], defers := [] }

/-- Between two goings through. -/
def GoneO (w4 : World) (L1 : Lay) (K1 : KLay) (ds : List Nat) (W : World) : Prop :=
  ∃ L K s, K.rb = K1.rb ∧ L.wb = L1.wb ∧ Kp W L K s ∧ Ext (ownK L1 K1) w4 (ownK L K) W ∧ (∀ D, D ∈ ds → W.heap[D]? = some (.deferred (some [])) ∧ ownK L K D = none ∧ w4.heap.size ≤ D) ∧ ds.Pairwise fun a b => b < a
/-- What the loop over the two goings keeps. -/
def GoneL (ra : Option Addr) (rn rc : Nat) (early : Int) (wh br : Nat) (w4 : World) (L1 : Lay) (K1 : KLay) (a : Act) (W : World) : Prop :=
  ∃ (i : Nat) (ds : List Nat), (∃ t, a = goneFr ra rn rc early wh br i t ds) ∧ i ≤ 2 ∧ ds.length = i ∧ GoneO w4 L1 K1 ds W
theorem recs_le (s : St) (h : Ok s) (k : Nat) (hk : k ≤ 6) : (s.recs k).length ≤ 200 := by
  have : ∀ k, (s.recs k).length ≤ 24 * k := by
    intro k
    induction k with
    | zero => simp [St.recs]
    | succ k ih => rw [St.recs_succ]; have := h.inv.len k; simp; omega
  have := this k
  omega
theorem Kp.free {w : World} {L : Lay} {K : KLay} {s : St} (h : Kp w L K s) {b : Nat} (hb : w.heap.size ≤ b) : ownK L K b = none :=
  ownK_none.2 ⟨h.rep.own2_free hb, by cases hh : K.own b with | none => rfl | some u => (have := h.run.lt _ _ hh; omega)⟩

set_option maxRecDepth 100000 in
set_option maxHeartbeats 4000000 in
theorem goneLaw_any (w : World) (ra : Option Addr) (rn rc : Nat) (early : Int) (hrn : rn ≤ maxLen) (_hrc : rn ≤ rc) (hra : StepsAt w ra rn) (he : inI early) :
    Calls Tryz.prog 11 #[.slice ra rn rc, .int .i64 early] w fun e w' => e = .returned (.bool true) ∧ Below w.heap.size w w' := by
  unfold maxLen at hrn
  refine (callsIn_wide (n := 3)).1 ?_
  refine callsIn_of_wp_marks Tryz.func11 rfl trivial ?_ rfl
  simp only [Tryz.ntmps11, List.size_toArray, List.length_cons, List.length_nil, Nat.reduceAdd, Nat.reduceSub, Array.replicate_succ, Array.replicate_zero, List.push_toArray, List.append_toArray, List.nil_append, List.cons_append]
  refine wpIn_wide.2 ?_
  have hbA := below_alloc w (Obj.cells #[.bool false] 4)
  have hbg := hide (troubled_any (w.alloc (Obj.cells #[.bool false] 4)))
  have p0 := Boxed.new w 4 (.bool false)
  go_wp2_with fail
  refine (unhide hbg).mono ?_
  rintro e w1 ⟨rfl, hb1⟩
  have hB1 := hbA.more hb1
  have p0 : Boxed w1 w.heap.size 4 (.bool false) := (hb1.block _ p0.lt).trans p0
  clear hbg hbA hb1
  have hfr := hide (run_fresh w1)
  go_wp2_with fail
  refine (unhide hfr).mono ?_
  rintro e w2 ⟨rb, wb, rfl, L1, K1, rfl, rfl, hp2, hE2⟩
  clear hfr
  have hb3 := below_alloc w2 (Obj.cells #[.pointer (some ⟨K1.rb, 0, none⟩)] 27)
  have p1 := Boxed.new w2 27 (.pointer (some ⟨K1.rb, 0, none⟩))
  have hp3 : Kp (w2.alloc (Obj.cells #[.pointer (some ⟨K1.rb, 0, none⟩)] 27)) L1 K1 (St.new 3) := hp2.below hb3
  have r0 := hp3.run.r0
  have hrc := hide (records_any (w2.alloc (Obj.cells #[.pointer (some ⟨K1.rb, 0, none⟩)] 27)) L1.wb)
  have hnil : ∀ (w : World) (b : Nat), (binOp BinOp.eql 59 (.func (.func 62) #[] #[.pointer (some ⟨b, 0, none⟩)]) .nilFunc).run Tryz.prog w = .ok (.bool false) w := fun _ _ => by kernel_rfl
  go_wp2_with fail
  refine (unhide hrc).mono ?_
  rintro e w4 ⟨rfl, hb4, p2⟩
  have hsz3 : (w2.alloc (Obj.cells #[.pointer (some ⟨K1.rb, 0, none⟩)] 27)).heap.size = w2.heap.size + 1 := by simp
  rw [hsz3] at p2
  have hp4 := hp3.below hb4
  have p1 : Boxed w4 w2.heap.size 27 (.pointer (some ⟨K1.rb, 0, none⟩)) := (hb4.block _ p1.lt).trans p1
  have hE4 : Ext (fun _ => none) w1 (ownK L1 K1) w4 := hE2.trans (Ext.of_below (hb3.more hb4))
  have f1 : ownK L1 K1 w2.heap.size = none := hp2.free (Nat.le_refl _)
  have f2 : ownK L1 K1 (w2.heap.size + 1) = none := hp2.free (by omega)
  have f0 : ownK L1 K1 w.heap.size = none := (hE4.keep _ p0.lt rfl).2
  have p0 : Boxed w4 w.heap.size 4 (.bool false) := ((hE4.keep _ p0.lt rfl).1).trans p0
  rw [hsz3]
  clear hrc hp2 hp3 hE2 hb3 hb4 r0 hsz3
  generalize w2.heap.size = br at *
  obtain ⟨fv, hfv⟩ : ∃ fv, Value.func (.func 62) #[] #[.pointer (some ⟨br + 1, 0, none⟩)] = fv := ⟨_, rfl⟩
  rw [hfv]
  go_wp2_with fail
  rename_i KK hKK
  have HREST : ∀ (v2 v3 v5 v8 v9 v10 v11 v12 v13 v14 v15 v16 v17 v18 v19 v20 v21 v22 v23 v24 v25 v26 v27 v28 v29 v30 v31 v32 v33 v34 v35 v36 v37 v38 v39 v40 v41 v42 v43 v44 v45 v46 v47 v48 v49 v50 v51 v52 v53 v54 v55 v56 v57 v58 v59 v60 v61 v62 v63 v64 v65 v66 v67 v68 v69 v70 v71 v72 v73 v74 v75 v76 v77 v78 v79 v80 v81 v82 v83 v84 v85 v86 v87 v88 v89 v90 v91 v92 v93 v94 v95 v96 v97 v98 v99 v100 v101 v102 v103 v104 v105 v106 v107 v108 v109 v110 v111 v112 v113 : Value) (wr : World) (s : St), Kt (ownK L1 K1) w4 K1.rb L1.wb wr s → KK { tmps := #[.slice ra rn rc, .int .i64 early, v2, v3, .pointer (some ⟨w.heap.size, 0, none⟩), v5, .pointer (some ⟨br, 0, none⟩), fv, v8, v9, v10, v11, v12, v13, v14, v15, v16, v17, v18, v19, v20, v21, v22, v23, v24, v25, v26, v27, v28, v29, v30, v31, v32, v33, v34, v35, v36, v37, v38, v39, v40, v41, v42, v43, v44, v45, v46, v47, v48, v49, v50, v51, v52, v53, v54, v55, v56, v57, v58, v59, v60, v61, v62, v63, v64, v65, v66, v67, v68, v69, v70, v71, v72, v73, v74, v75, v76, v77, v78, v79, v80, v81, v82, v83, v84, v85, v86, v87, v88, v89, v90, v91, v92, v93, v94, v95, v96, v97, v98, v99, v100, v101, v102, v103, v104, v105, v106, v107, v108, v109, v110, v111, v112, v113], defers := [] } wr := by
    intro v2 v3 v5 v8 v9 v10 v11 v12 v13 v14 v15 v16 v17 v18 v19 v20 v21 v22 v23 v24 v25 v26 v27 v28 v29 v30 v31 v32 v33 v34 v35 v36 v37 v38 v39 v40 v41 v42 v43 v44 v45 v46 v47 v48 v49 v50 v51 v52 v53 v54 v55 v56 v57 v58 v59 v60 v61 v62 v63 v64 v65 v66 v67 v68 v69 v70 v71 v72 v73 v74 v75 v76 v77 v78 v79 v80 v81 v82 v83 v84 v85 v86 v87 v88 v89 v90 v91 v92 v93 v94 v95 v96 v97 v98 v99 v100 v101 v102 v103 v104 v105 v106 v107 v108 v109 v110 v111 v112 v113 wr s hK
    refine hKK _ _ ?_
    subst hfv
    go_wp2_with fail
    clear hra hrn
    rename_i KE hKE
    refine (wpIn_wide (n := 3)).1 ?_
    refine wpIn_loop (F := Fence.wide) (n := 3) (GoneL ra rn rc early w.heap.size br w4 L1 K1) (fun a _ => 2 - (intOf (a.tmps.getD 10 undef)).toNat) ?start ?round
    case start =>
      obtain ⟨L, K, e1, e2, hp, hE⟩ := hK
      exact ⟨0, [], goneFr_mk rfl, by omega, rfl, L, K, s, e1, e2, hp, hE, (fun D hD => by simp at hD), List.Pairwise.nil⟩
    case round =>
      clear hK
      rintro a W ⟨i, ds, ⟨t, rfl⟩, hi, hlen, L, K, s, e1, e2, hp, hE, hD, hpw⟩
      unfold goneFr
      refine (wpIn_wide (n := 3)).2 ?_
      have hx1 := hE.keep br p1.lt f1
      have hx2 := hE.keep (br + 1) (World.block_lt_of_cell? w4 _ p2) f2
      have hx0 := hE.keep w.heap.size p0.lt f0
      have hw04 : w.heap.size < w4.heap.size := p0.lt
      have p0 : Boxed W w.heap.size 4 (.bool false) := hx0.1.trans p0
      have p1 : Boxed W br 27 (.pointer (some ⟨K1.rb, 0, none⟩)) := hx1.1.trans p1
      have p2 := (World.cell?_of_block (a := ⟨br + 1, 0, none⟩) hx2.1).trans p2
      have c1 := p1.cell
      by_cases hi2 : i < 2
      · have hii : (i : Int) < 2 := by omega
        have HLOG := runLogs_any hp
        rw [e1] at HLOG
        have HLOG := hide HLOG
        go_wp2_with fail
        refine (unhide HLOG).mono ?_
        rintro e w2 ⟨x1, x2, rfl, L2, K2, k1, k2, hp2, hE2, hfr2, r1, r2⟩
        obtain ⟨a1, d1, rfl, q1⟩ := rowBlock r1
        obtain ⟨a2, d2, rfl, q2⟩ := rowBlock r2
        have hm200 : (s.recs 4).length ≤ 200 := recs_le s hp.ok 4 (by omega)
        generalize hm : (s.recs 4).length = m at *
        have HM := hide hm
        clear hm HLOG
        have hpr := pickI_range early (m + 2) (by omega)
        have HPK := hide (fun W => pick_any early (m + 2) W (by omega) (by omega) he.1 he.2)
        obtain ⟨kk, hkk⟩ : ∃ kk : Nat, pickI early (m + 2) = kk := ⟨(pickI early (m + 2)).toNat, by omega⟩
        rw [hkk] at HPK hpr
        go_wp2_with fail
        refine (unhide HPK _).mono ?_
        rintro e wz ⟨rfl, rfl⟩
        go_wp2_with fail
        rename_i Kb hKb Ka hKa
        have hb3 := ((((below_alloc w2 (Obj.cells #[.slice a1 m d1] 56)).more (below_alloc _ (Obj.cells #[.slice a2 m d2] 33))).more (below_alloc _ (Obj.cells #[.int .i64 (kk : Int)] 3))).more (below_alloc _ (Obj.cells #[.int .i64 0] 3)))
        have B1 := (((Boxed.new w2 56 (.slice a1 m d1)).alloc (Obj.cells #[.slice a2 m d2] 33)).alloc (Obj.cells #[.int .i64 (kk : Int)] 3)).alloc (Obj.cells #[.int .i64 0] 3)
        have B2 := ((Boxed.new (w2.alloc (Obj.cells #[.slice a1 m d1] 56)) 33 (.slice a2 m d2)).alloc (Obj.cells #[.int .i64 (kk : Int)] 3)).alloc (Obj.cells #[.int .i64 0] 3)
        have B3 := (Boxed.new ((w2.alloc (Obj.cells #[.slice a1 m d1] 56)).alloc (Obj.cells #[.slice a2 m d2] 33)) 3 (.int .i64 (kk : Int))).alloc (Obj.cells #[.int .i64 0] 3)
        have B4 := Boxed.new (((w2.alloc (Obj.cells #[.slice a1 m d1] 56)).alloc (Obj.cells #[.slice a2 m d2] 33)).alloc (Obj.cells #[.int .i64 (kk : Int)] 3)) 3 (.int .i64 0)
        have hs3 : ((((w2.alloc (Obj.cells #[.slice a1 m d1] 56)).alloc (Obj.cells #[.slice a2 m d2] 33)).alloc (Obj.cells #[.int .i64 (kk : Int)] 3)).alloc (Obj.cells #[.int .i64 0] 3)).heap.size = w2.heap.size + 4 := by simp
        simp only [World.size_alloc] at B2 B3 B4
        generalize ((((w2.alloc (Obj.cells #[.slice a1 m d1] 56)).alloc (Obj.cells #[.slice a2 m d2] 33)).alloc (Obj.cells #[.int .i64 (kk : Int)] 3)).alloc (Obj.cells #[.int .i64 0] 3)) = w3 at *
        obtain ⟨n1, hn1⟩ : ∃ n1, w2.heap.size = n1 := ⟨_, rfl⟩
        simp only [hn1] at B1 B2 B3 B4 hs3 ⊢
        have e12 : L2.wb = L1.wb := k2.trans e2
        have e11 : K2.rb = K1.rb := k1
        have hWn : W.heap.size ≤ n1 := by rw [← hn1]; exact hE2.size
        have hfr : ∀ b, W.heap.size ≤ b → own2 L2 b = none := fun b hb => (ownK_none.1 (hfr2 b hb)).1
        have hp3 : Kp w3 L2 K2 s := hp2.below hb3
        obtain ⟨cut1, cut2, cut3⟩ := hp3.rep.cut
        have HEND : ∀ (a : Act) (D : Nat) (W' : World) (c : Nat), (∃ t, a = goneEn ra rn rc early w.heap.size br n1 i t (D :: ds)) → w3.heap.size ≤ D → Boxed W' (n1 + 1 + 1 + 1) 3 (.int .i64 (c : Int)) → c = min kk m → Gz w3 (L2.cut s) L1.wb (n1 + 1 + 1 + 1) s W' → W'.heap[D]? = some (.deferred (some [])) → Ka a W' := by
          rintro a D W' c ⟨t', rfl⟩ hD4 hBc hc hG hKD
          refine hKa _ _ ?_
          unfold goneEn
          have C2 : Boxed W' (n1 + 1) 33 (.slice a2 m d2) := (hG.keep (by omega) (cut3 _ (hfr _ (by omega))) (by omega)).trans B2
          have C3 : Boxed W' (n1 + 1 + 1) 3 (.int .i64 (kk : Int)) := (hG.keep (by omega) (cut3 _ (hfr _ (by omega))) (by omega)).trans B3
          have y2 := C2.cell
          have y3 := C3.cell
          have y4 := hBc.cell
          have HO : GoneO w4 L1 K1 (D :: ds) W' := by
            rw [← e12] at hG
            obtain ⟨L', s', t1, t2, t3, t4⟩ := Gz.back hp2 hb3 (by omega) hG
            have hDs : ∀ D', D' ∈ ds → D' < W.heap.size := fun D' h' => (Array.getElem?_eq_some_iff.1 (hD D' h').1).1
            refine ⟨L', K2, s', e11, t1.trans e12, t2, (hE.trans hE2).trans t3, fun D' h' => ?_, List.Pairwise.cons (fun D' h' => ?_) hpw⟩
            · rcases List.mem_cons.1 h' with rfl | h'
              · refine ⟨hKD, ownK_none.2 ⟨?_, ?_⟩, ?_⟩
                · by_cases ho : own2 L' D' = none
                  · exact ho
                  · obtain ⟨cc, tt, zz, hcc⟩ := t4 D' ho
                    rw [hKD] at hcc
                    cases hcc
                · cases hh : K2.own D' with
                  | none => rfl
                  | some u => have := hp2.run.lt _ _ hh; omega
                · have := hE.size; omega
              · obtain ⟨u1, u2, u3⟩ := hD D' h'
                obtain ⟨z1, z2⟩ := hE2.keep D' (hDs D' h') u2
                obtain ⟨y1, y2⟩ := t3.keep D' (by have := hDs D' h'; omega) z2
                exact ⟨(y1.trans z1).trans u1, y2, u3⟩
            · have := hDs D' h'
              omega
          have HO := hide HO
          subst hc
          clear hG hKD hp2 hp3 cut1 cut2 cut3 hfr hfr2 hE hE2 hp hD
          go_wp2
          all_goals
            refine ⟨⟨i + 1, D :: ds, goneFr_mk rfl, by omega, by simp [hlen], unhide HO⟩, ?_⟩
            simp [intOf, go_sem]
            omega
        refine (wpIn_wide (n := 3)).1 ?_
        have hp3' := hp.p3
        refine wpIn_rangeFunc_ownH (w0 := w3) rfl (by omega) (gf := 62) (lb := #[.pointer (some ⟨br + 1, 0, none⟩)]) rfl trivial (enters_of Tryz.func62 (by kernel_rfl) rfl)
          (rec_stops (n₀ := w3.heap.size) (T := Tg L1.wb) (L := L2.cut s) (by omega) cut1 hp.ok ?hBn (Nat.le_refl _) ?hT ?hTb) Kept.trans ?hKb (Below.refl _ _) (fun _ => rfl)
          (GoneI w3 (L2.cut s) L1.wb (n1 + 1 + 1 + 1) kk s) (GoneX w3 (L2.cut s) L1.wb (n1 + 1 + 1 + 1) kk s) (goneI_own _ _ _ _ _ _) (goneX_own _ _ _ _ _ _) ?h0
          (fun x a' W => ∃ Bx, W.heap[Bx]? = some (.cells #[.int .i64 (x.2.1 : Int), .int .i64 (x.2.2 : Int)] 43 (0, 0)) ∧ w3.heap.size ≤ Bx ∧ ∃ t, a' = goneBd w.heap.size br n1 x Bx t) ?hAx ?assign ?body ?done ?stop
        case hBn =>
          have hlt := World.block_lt_of_cell? W _ p2
          have q := (World.cell?_of_block (a := ⟨br + 1, 0, none⟩) (hE2.keep (br + 1) hlt hx2.2).1).trans p2
          have q3 := (hb3.cell (p := ⟨br + 1, 0, none⟩) (World.block_lt_of_cell? w2 _ q)).trans q
          rw [q3, show (L2.cut s).wb = L1.wb from e12]
        case hT =>
          intro b hb W' hW' hTg
          have hr := cut1.below hW'
          rw [show L1.wb = (L2.cut s).wb from e12.symm, Tg.iff hr] at hTg
          exact hTg.owned hr (cut1.own2_free hb)
        case hTb => exact fun A B b _ hAB hn => Tg.turn hAB.size (fun b c t z hc => hAB.block b (Array.getElem?_eq_some_iff.1 hc).1) hn
        case hKb =>
          intro X l o o' hl hlo hoc _
          have hne : ∀ (b : Nat) (c : Array Value) (t : TypeId) (z : Nat × Nat), X.heap[b]? = some (Obj.cells c t z) → (X.putObj l o').heap[b]? = X.heap[b]? := by
            intro b c t z hc
            simp [World.putObj, Array.getElem?_setIfInBounds]
            intro e
            subst e
            rw [hlo] at hc
            cases hc
            cases hoc
          exact ⟨by simp [World.putObj], fun b c t z _ hc hT => ⟨hne b c t z hc, Tg.turn (by simp [World.putObj]) hne hT⟩⟩
        case h0 =>
          refine ⟨List.nil_prefix, Nat.zero_le _, by simpa using B4, ?_⟩
          have := Gz.start hp3.rep hp.ok hp.p3 (hfr (n1 + 1 + 1 + 1) (by omega))
          rwa [e12] at this
        case hAx =>
          rintro x a' _ X Y' row ⟨Bx, hBx, hle, ht⟩ hg hr
          refine ⟨Bx, (hg.block Bx (Array.getElem?_eq_some_iff.1 hBx).1 fun e => ?_).trans hBx, hle, ht⟩
          obtain ⟨_, o, ho, hoc⟩ := hr _ e.symm
          rw [hBx] at ho
          cases ho
          cases hoc
        case assign =>
          rintro l pre x X K' hI hK'
          dsimp only [recEnc]
          have hsX := hI.2.2.2.size
          gi_wp2
          have hba := below_alloc X (Obj.cells #[.int .i64 (x.2.1 : Int), .int .i64 (x.2.2 : Int)] 43)
          refine hK' _ _ ((KeepsOthers.alloc _ _).from _) ⟨hba.size, fun b c t z _ hc hT => ⟨hba.block b (Array.getElem?_eq_some_iff.1 hc).1, Tg.turn hba.size (fun b c t z hc => hba.block b (Array.getElem?_eq_some_iff.1 hc).1) hT⟩⟩ ((goneI_own _ _ _ _ _ _).alloc _ hI) ⟨X.heap.size, World.alloc_heap_new X _, hsX, goneBd_mk rfl⟩
        case body =>
          rintro l pre x a' X hl hr ⟨hpre, hlk, hBc, hG⟩ ⟨Bx, hBx, hBxl, t', rfl⟩ hlt
          unfold goneBd
          have hk0 : ∀ b, W.heap.size ≤ b → b < n1 + 3 → X.heap[b]? = w3.heap[b]? := fun b h1 h2 => hG.keep (by omega) (cut3 _ (hfr _ h1)) (by omega)
          have hk2 : ∀ b, b < w2.heap.size → own2 L2 b = none → X.heap[b]? = w2.heap[b]? := fun b h1 h2 => (hG.keep (Nat.lt_of_lt_of_le h1 hb3.size) (cut3 _ h2) (by omega)).trans (hb3.block b h1)
          have hkW : ∀ b, b < W.heap.size → ownK L K b = none → X.heap[b]? = W.heap[b]? := fun b h1 h2 => (hk2 b (by omega) (ownK_none.1 (hE2.keep b h1 h2).2).1).trans (hE2.keep b h1 h2).1
          have C1 : Boxed X n1 56 (.slice a1 m d1) := (hk0 _ (by omega) (by omega)).trans B1
          have C2 : Boxed X (n1 + 1) 33 (.slice a2 m d2) := (hk0 _ (by omega) (by omega)).trans B2
          have C3 : Boxed X (n1 + 1 + 1) 3 (.int .i64 (kk : Int)) := (hk0 _ (by omega) (by omega)).trans B3
          have P1 : Boxed X br 27 (.pointer (some ⟨K1.rb, 0, none⟩)) := (hkW br p1.lt hx1.2).trans p1
          have P0 : Boxed X w.heap.size 4 (.bool false) := (hkW _ p0.lt hx0.2).trans p0
          have hrbl := hp2.run.lt _ _ hp2.run.g0
          have R0 : X.cell? ⟨K1.rb, 0, none⟩ = some (.pointer (some ⟨L1.wb, 0, none⟩)) := by
            have := (World.cell?_of_block (a := ⟨K2.rb, 0, none⟩) (hk2 _ hrbl (hp2.ap _ _ hp2.run.g0))).trans hp2.run.r0
            rw [e11, e12] at this
            exact this
          have HCL := hide (fun Z (hZ : Gz w3 (L2.cut s) L1.wb (n1 + 1 + 1 + 1) s Z) => show Z.cell? ⟨br, 0, none⟩ = some (.pointer (some ⟨K1.rb, 0, none⟩)) ∧ Z.cell? ⟨K1.rb, 0, none⟩ = some (.pointer (some ⟨L1.wb, 0, none⟩)) from (by
            have hz2 : ∀ b, b < w2.heap.size → own2 L2 b = none → Z.heap[b]? = w2.heap[b]? := fun b h1 h2 => (hZ.keep (Nat.lt_of_lt_of_le h1 hb3.size) (cut3 _ h2) (by omega)).trans (hb3.block b h1)
            have hzW : ∀ b, b < W.heap.size → ownK L K b = none → Z.heap[b]? = W.heap[b]? := fun b h1 h2 => (hz2 b (by omega) (ownK_none.1 (hE2.keep b h1 h2).2).1).trans (hE2.keep b h1 h2).1
            refine ⟨Boxed.cell (show Boxed Z br 27 (.pointer (some ⟨K1.rb, 0, none⟩)) from (hzW br p1.lt hx1.2).trans p1), ?_⟩
            have := (World.cell?_of_block (a := ⟨K2.rb, 0, none⟩) (hz2 _ hrbl (hp2.ap _ _ hp2.run.g0))).trans hp2.run.r0
            rw [e11, e12] at this
            exact this))
          have y1 := C1.cell
          have y2 := C2.cell
          have y3 := C3.cell
          have y4 := hBc.cell
          have z4 := hBc.frozen
          have y5 := P1.cell
          by_cases hck : pre.length = kk
          · have hI : GoneI w3 (L2.cut s) L1.wb (n1 + 1 + 1 + 1) kk s pre X := ⟨hpre, hlk, hBc, hG⟩
            rw [hck] at y4
            gi_wp2
            exact ⟨KeepsFrom.refl _ _, .inl ⟨rfl, pre, x, rfl, hck, hI⟩⟩
          · have hcm : pre.length < m := by rw [hp3', unhide HM] at hlt; exact hlt
            obtain ⟨y, hy⟩ : ∃ y, (s.recs 4)[pre.length]? = some y := ⟨_, List.getElem?_eq_getElem (by rw [unhide HM]; exact hcm)⟩
            have hrow : ∀ b, W.heap.size ≤ b ∧ (∃ cs e, w2.heap[b]? = some (Obj.cells cs e (0, 0))) → X.heap[b]? = w2.heap[b]? := by
              rintro b ⟨h1, cs, e, h2⟩
              have hlt := (Array.getElem?_eq_some_iff.1 h2).1
              exact hk2 b hlt (hfr b h1)
            have r1X := rowFramed (w' := X) r1 fun b hb => hrow b ⟨(q1 b hb).1, _, _, (q1 b hb).2.choose_spec⟩
            have r2X := rowFramed (w' := X) r2 fun b hb => hrow b ⟨(q2 b hb).1, _, _, (q2 b hb).2.choose_spec⟩
            obtain ⟨g1, t1, hm1, _, hC1⟩ := (Owns.of_row (ownsRow_mono r1X (Nat.zero_le _))).at (by simp; omega)
            obtain ⟨g2, t2, hm2, _, hC2⟩ := (Owns.of_row (ownsRow_mono r2X (Nat.zero_le _))).at (by simp; omega)
            simp only at t1 t2 hm1 hm2
            subst t1 t2
            have hy2 : ((s.recs 4).map fun x => x.2)[pre.length]? = some y.2 := by rw [List.getElem?_map, hy]; rfl
            have n0 : X.cell? ⟨g1, pre.length, none⟩ = some (.int .i64 (y.1 : Int)) := hC1 _ _ (by rw [List.getElem?_map, hy]; rfl)
            have n2 : X.cell? ⟨g2, pre.length * 2, none⟩ = some (.int .i64 (y.2.1 : Int)) := hC2 _ _ (recCells_at hy2).1
            have n3 : X.cell? ⟨g2, pre.length * 2 + 1, none⟩ = some (.int .i64 (y.2.2 : Int)) := hC2 _ _ (recCells_at hy2).2
            have n4 : X.cell? ⟨Bx, 0, none⟩ = some (.int .i64 (x.2.1 : Int)) := by simp [World.cell?, hBx]
            have n5 : X.cell? ⟨Bx, 1, none⟩ = some (.int .i64 (x.2.2 : Int)) := by simp [World.cell?, hBx]
            have ne1 : br ≠ n1 + 1 + 1 + 1 := by have := p1.lt; omega
            have ne2 : K1.rb ≠ n1 + 1 + 1 + 1 := by rw [← e11]; omega
            have hcki : ¬ (pre.length : Int) = (kk : Int) := by omega
            have hmi : (pre.length : Int) < (m : Int) := by omega
            have hge : decide (m ≤ pre.length) = false := by simp; omega
            have HY := hide hy
            have HG := hide hG
            have HBC := hide hBc
            have HKW := hide hkW
            have hmix : Tryz.prog.follows .mixedOrders = true := by kernel_rfl
            clear hy hy2 hC1 hC2 r1X r2X hrow hk0 hk2 hkW C1 C2 C3 hG hBc hBx
            obtain ⟨b1, hb1⟩ : ∃ b1, ((y.1 : Int) != (x.1 : Int)) = b1 := ⟨_, rfl⟩
            have HB1 := hide hb1
            clear hb1
            have z0 := P0.frozen
            have y0 := P0.cell
            gi_wp2
            refine wpIn_region_any hmix ?_
            refine wpAnyIn_start (fun T => goneCk w.heap.size br n1 x Bx pre.length m g1 d1 g2 d2 y b1 (!(decide (y.2.1 = x.2.1) && decide (y.2.2 = x.2.2))) T (fun _ => false)) rfl fun T => ?_
            refine wpAnyIn_frames (fun listed a w' => ∃ l : Nat → Bool, (∀ j, l j = listed.getD j false) ∧ a = goneCk w.heap.size br n1 x Bx pre.length m g1 d1 g2 d2 y b1 (!(decide (y.2.1 = x.2.1) && decide (y.2.2 = x.2.2))) T l ∧ w' = X.drew) ?hback ?hend ?hstep _ _ _ _ ⟨fun _ => false, fun j => ?hz, rfl, rfl⟩ (by simp) (left_all _)
            case hz => simp [Array.getD]
            case hback => exact back_of (by kernel_rfl)
            case hstep =>
              clear HG HBC HKW HCL HY y0 z0 z4 P0 P1 R0 y5
              rintro listed i a w' ⟨lf, hlf, rfl, rfl⟩ hs hi hf hd K hK
              have hi20 : i < 20 := by simpa using hi
              have hK' : K (goneCk w.heap.size br n1 x Bx pre.length m g1 d1 g2 d2 y b1 (!(decide (y.2.1 = x.2.1) && decide (y.2.2 = x.2.2))) T (fun j => if j = i then true else lf j)) X.drew := hK _ _ ⟨fun j => if j = i then true else lf j, fun j => (by show (if j = i then true else lf j) = _; rw [getD_put (by rw [hs]; exact hi), hlf]), rfl, rfl⟩
              clear hK
              match i, hi20 with
              | 0, _ =>
                clear hlf hd hf hs
                refine wpOpIn_of_list rfl ?_
                unfold goneCk at hK' ⊢
                gi_wp2
                simpa using hK'
              | 1, _ =>
                clear hlf hd hf hs
                refine wpOpIn_of_list rfl ?_
                unfold goneCk at hK' ⊢
                gi_wp2
                simpa using hK'
              | 2, _ =>
                have h1 : lf 1 = true := (hlf 1).trans (hd _ rfl ⟨1, .data⟩ (by simp) rfl)
                clear hlf hd hf hs
                refine wpOpIn_of_list rfl ?_
                unfold goneCk at hK' ⊢
                simp only [h1, cond_true]
                gi_wp2
                simpa [h1] using hK'
              | 3, _ =>
                have h0 : lf 0 = true := (hlf 0).trans (hd _ rfl ⟨0, .data⟩ (by simp) rfl)
                have h2 : lf 2 = true := (hlf 2).trans (hd _ rfl ⟨2, .data⟩ (by simp) rfl)
                clear hlf hd hf hs
                refine wpOpIn_of_list rfl ?_
                unfold goneCk at hK' ⊢
                simp only [h0, h2, cond_true]
                gi_wp2
                simpa [h0, h2] using hK'
              | 4, _ =>
                have h3 : lf 3 = true := (hlf 3).trans (hd _ rfl ⟨3, .data⟩ (by simp) rfl)
                clear hlf hd hf hs
                refine wpOpIn_of_list rfl ?_
                unfold goneCk at hK' ⊢
                simp only [h3, cond_true]
                gi_wp2
                simpa [h3] using hK'
              | 5, _ =>
                have h4 : lf 4 = true := (hlf 4).trans (hd _ rfl ⟨4, .guard⟩ (by simp) rfl)
                clear hlf hd hf hs
                refine wpOpIn_of_list rfl ?_
                unfold goneCk at hK' ⊢
                simp only [h4, cond_true]
                gi_wp2
                simpa [h4] using hK'
              | 6, _ =>
                have h4 : lf 4 = true := (hlf 4).trans (hd _ rfl ⟨4, .guard⟩ (by simp) rfl)
                clear hlf hd hf hs
                refine wpOpIn_of_list rfl ?_
                unfold goneCk at hK' ⊢
                simp only [h4, cond_true]
                gi_wp2
                simpa [h4] using hK'
              | 7, _ =>
                have h5 : lf 5 = true := (hlf 5).trans (hd _ rfl ⟨5, .data⟩ (by simp) rfl)
                have h6 : lf 6 = true := (hlf 6).trans (hd _ rfl ⟨6, .data⟩ (by simp) rfl)
                have h4 : lf 4 = true := (hlf 4).trans (hd _ rfl ⟨4, .guard⟩ (by simp) rfl)
                clear hlf hd hf hs
                refine wpOpIn_of_list rfl ?_
                unfold goneCk at hK' ⊢
                simp only [h5, h6, h4, cond_true]
                gi_wp2
                simpa [h5, h6, h4] using hK'
              | 8, _ =>
                have h7 : lf 7 = true := (hlf 7).trans (hd _ rfl ⟨7, .data⟩ (by simp) rfl)
                have h4 : lf 4 = true := (hlf 4).trans (hd _ rfl ⟨4, .guard⟩ (by simp) rfl)
                clear hlf hd hf hs
                refine wpOpIn_of_list rfl ?_
                unfold goneCk at hK' ⊢
                simp only [h7, h4, cond_true]
                gi_wp2
                simpa [h7, h4] using hK'
              | 9, _ =>
                have h4 : lf 4 = true := (hlf 4).trans (hd _ rfl ⟨4, .guard⟩ (by simp) rfl)
                clear hlf hd hf hs
                refine wpOpIn_of_list rfl ?_
                unfold goneCk at hK' ⊢
                simp only [h4, cond_true]
                gi_wp2
                simpa [h4] using hK'
              | 10, _ =>
                have h8 : lf 8 = true := (hlf 8).trans (hd _ rfl ⟨8, .data⟩ (by simp) rfl)
                have h9 : lf 9 = true := (hlf 9).trans (hd _ rfl ⟨9, .data⟩ (by simp) rfl)
                have h4 : lf 4 = true := (hlf 4).trans (hd _ rfl ⟨4, .guard⟩ (by simp) rfl)
                clear hlf hd hf hs
                refine wpOpIn_of_list rfl ?_
                unfold goneCk at hK' ⊢
                simp only [h8, h9, h4, cond_true]
                gi_wp2
                simp only [unhide HB1]
                simpa [h8, h9, h4] using hK'
              | 11, _ =>
                have h4 : lf 4 = true := (hlf 4).trans (hd _ rfl ⟨4, .data⟩ (by simp) rfl)
                have h10 : lf 10 = true := (hlf 10).trans (hd _ rfl ⟨10, .data⟩ (by simp) rfl)
                clear hlf hd hf hs
                refine wpOpIn_of_list rfl ?_
                unfold goneCk at hK' ⊢
                simp only [h4, h10, cond_true]
                gi_wp2
                simpa [h4, h10] using hK'
              | 12, _ =>
                have h11 : lf 11 = true := (hlf 11).trans (hd _ rfl ⟨11, .data⟩ (by simp) rfl)
                have h4 : lf 4 = true := (hlf 4).trans (hd _ rfl ⟨4, .chain⟩ (by simp) rfl)
                clear hlf hd hf hs
                refine wpOpIn_of_list rfl ?_
                unfold goneCk at hK' ⊢
                simp only [h11, h4, cond_true]
                gi_wp2
                simpa [h11, h4] using hK'
              | 13, _ =>
                have h12 : lf 12 = true := (hlf 12).trans (hd _ rfl ⟨12, .guard⟩ (by simp) rfl)
                clear hlf hd hf hs
                refine wpOpIn_of_list rfl ?_
                unfold goneCk at hK' ⊢
                cases b1 with
                | false =>
                  simp only [h12, cond_true, cond_false]
                  gi_wp2
                  simpa [h12] using hK'
                | true =>
                  simp only [h12, cond_true]
                  gi_wp2
                  simpa [h12] using hK'
              | 14, _ =>
                have h12 : lf 12 = true := (hlf 12).trans (hd _ rfl ⟨12, .guard⟩ (by simp) rfl)
                clear hlf hd hf hs
                refine wpOpIn_of_list rfl ?_
                unfold goneCk at hK' ⊢
                cases b1 with
                | false =>
                  simp only [h12, cond_true, cond_false]
                  gi_wp2
                  simpa [h12] using hK'
                | true =>
                  simp only [h12, cond_true]
                  gi_wp2
                  simpa [h12] using hK'
              | 15, _ =>
                have h13 : lf 13 = true := (hlf 13).trans (hd _ rfl ⟨13, .data⟩ (by simp) rfl)
                have h14 : lf 14 = true := (hlf 14).trans (hd _ rfl ⟨14, .data⟩ (by simp) rfl)
                have h12 : lf 12 = true := (hlf 12).trans (hd _ rfl ⟨12, .guard⟩ (by simp) rfl)
                clear hlf hd hf hs
                refine wpOpIn_of_list rfl ?_
                unfold goneCk at hK' ⊢
                cases b1 with
                | false =>
                  simp only [h13, h14, h12, cond_true, cond_false]
                  gi_wp2
                  simpa [h13, h14, h12] using hK'
                | true =>
                  simp only [h13, h14, h12, cond_true]
                  gi_wp2
                  simpa [h13, h14, h12] using hK'
              | 16, _ =>
                have h15 : lf 15 = true := (hlf 15).trans (hd _ rfl ⟨15, .data⟩ (by simp) rfl)
                have h12 : lf 12 = true := (hlf 12).trans (hd _ rfl ⟨12, .guard⟩ (by simp) rfl)
                clear hlf hd hf hs
                refine wpOpIn_of_list rfl ?_
                unfold goneCk at hK' ⊢
                cases b1 with
                | false =>
                  simp only [h15, h12, cond_true, cond_false]
                  gi_wp2
                  simpa [h15, h12] using hK'
                | true =>
                  simp only [h15, h12, cond_true]
                  gi_wp2
                  simpa [h15, h12] using hK'
              | 17, _ =>
                have h12 : lf 12 = true := (hlf 12).trans (hd _ rfl ⟨12, .guard⟩ (by simp) rfl)
                clear hlf hd hf hs
                refine wpOpIn_of_list rfl ?_
                unfold goneCk at hK' ⊢
                cases b1 with
                | false =>
                  simp only [h12, cond_true, cond_false]
                  gi_wp2
                  simpa [h12] using hK'
                | true =>
                  simp only [h12, cond_true]
                  gi_wp2
                  simpa [h12] using hK'
              | 18, _ =>
                have h16 : lf 16 = true := (hlf 16).trans (hd _ rfl ⟨16, .data⟩ (by simp) rfl)
                have h17 : lf 17 = true := (hlf 17).trans (hd _ rfl ⟨17, .data⟩ (by simp) rfl)
                have h12 : lf 12 = true := (hlf 12).trans (hd _ rfl ⟨12, .guard⟩ (by simp) rfl)
                clear hlf hd hf hs
                refine wpOpIn_of_list rfl ?_
                unfold goneCk at hK' ⊢
                cases b1 with
                | false =>
                  simp only [h16, h17, h12, cond_true, cond_false]
                  by_cases e1 : y.2.1 = x.2.1
                  · by_cases e2 : y.2.2 = x.2.2
                    · gi_wp2
                      simpa [h16, h17, h12, e1, e2] using hK'
                    · gi_wp2
                      simpa [h16, h17, h12, e1, e2] using hK'
                  · gi_wp2
                    simpa [h16, h17, h12, e1] using hK'
                | true =>
                  simp only [h16, h17, h12, cond_true]
                  gi_wp2
                  simpa [h16, h17, h12] using hK'
              | 19, _ =>
                have h12 : lf 12 = true := (hlf 12).trans (hd _ rfl ⟨12, .data⟩ (by simp) rfl)
                have h18 : lf 18 = true := (hlf 18).trans (hd _ rfl ⟨18, .data⟩ (by simp) rfl)
                clear hlf hd hf hs
                refine wpOpIn_of_list rfl ?_
                unfold goneCk at hK' ⊢
                cases b1 with
                | false =>
                  simp only [h12, h18, cond_true, cond_false]
                  gi_wp2
                  simpa [h12, h18] using hK'
                | true =>
                  simp only [h12, h18, cond_true]
                  gi_wp2
                  simpa [h12, h18] using hK'
              | i + 20, h => exact absurd h (by omega)
            case hend =>
              rintro a w' ⟨lf, hlf, rfl, rfl⟩
              have hall : ∀ j, j < 20 → lf j = true := fun j hj => by rw [hlf]; simp [Array.getD, hj]
              clear hlf
              have h0 := hall 0 (by omega)
              have h1 := hall 1 (by omega)
              have h2 := hall 2 (by omega)
              have h3 := hall 3 (by omega)
              have h4 := hall 4 (by omega)
              have h5 := hall 5 (by omega)
              have h6 := hall 6 (by omega)
              have h7 := hall 7 (by omega)
              have h8 := hall 8 (by omega)
              have h9 := hall 9 (by omega)
              have h10 := hall 10 (by omega)
              have h11 := hall 11 (by omega)
              have h12 := hall 12 (by omega)
              have h13 := hall 13 (by omega)
              have h14 := hall 14 (by omega)
              have h15 := hall 15 (by omega)
              have h16 := hall 16 (by omega)
              have h17 := hall 17 (by omega)
              have h18 := hall 18 (by omega)
              have h19 := hall 19 (by omega)
              clear hall
              unfold goneCk
              simp only [h0, h1, h2, h3, h4, h5, h6, h7, h8, h9, h10, h11, h12, h13, h14, h15, h16, h17, h18, h19, cond_true]
              clear h0 h1 h2 h3 h4 h5 h6 h7 h8 h9 h10 h11 h12 h13 h14 h15 h16 h17 h18 h19
              have HXY := hide (show (b1 || (!(decide (y.2.1 = x.2.1) && decide (y.2.2 = x.2.2)))) = false ↔ x = y from (by
                rw [← unhide HB1]
                obtain ⟨x0, x1, x2⟩ := x
                obtain ⟨y0, y1, y2⟩ := y
                simp only [Bool.or_eq_false_iff, bne_eq_false_iff_eq, Bool.not_eq_false', Bool.and_eq_true, decide_eq_true_eq, Prod.mk.injEq, Int.natCast_inj]
                constructor
                · rintro ⟨e1, e2, e3⟩; exact ⟨e1.symm, e2.symm, e3.symm⟩
                · rintro ⟨e1, e2, e3⟩; exact ⟨e1.symm, e2.symm, e3.symm⟩))
              generalize (b1 || (!(decide (y.2.1 = x.2.1) && decide (y.2.2 = x.2.2)))) = bb at *
              cases bb with
              | true =>
                have hnot : ¬ pre ++ [x] <+: s.recs 4 := by
                  intro hh
                  have h1 := prefix_at hh
                  rw [unhide HY] at h1
                  have h2 := (unhide HXY).2 (by injection h1 with h1; exact h1.symm)
                  cases h2
                clear HXY
                gi_wp2
                exact ⟨(by first | exact ((KeepsOthers.setCell _ _ _).trans (KeepsOthers.drew _)).from _ | exact ((KeepsOthers.drew _).trans (KeepsOthers.setCell _ _ _)).from _), .inr hnot⟩
              | false =>
                obtain rfl := (unhide HXY).1 rfl
                have HD := hide (Gz.deliver (B := n1 + 4) (n₀ := n1 + 4) ((unhide HG).set (.int .i64 ((pre.length : Int) + 1))).drew (show Boxed (X.setCell ⟨n1 + 1 + 1 + 1, 0, none⟩ (.int .i64 ((pre.length : Int) + 1))).drew (n1 + 1 + 1 + 1) 3 (.int .i64 ((pre.length : Int) + 1)) from Boxed.set (.int .i64 ((pre.length : Int) + 1)) (unhide HBC)) 0)
                have hkp0 : Kept (n1 + 4) (Tg L1.wb) X (X.setCell ⟨n1 + 1 + 1 + 1, 0, none⟩ (.int .i64 ((pre.length : Int) + 1))).drew := ((unhide HG).keptSet (by omega) _).trans keptDrew
                have hkf0 : KeepsFrom (n1 + 4) X (X.setCell ⟨n1 + 1 + 1 + 1, 0, none⟩ (.int .i64 ((pre.length : Int) + 1))).drew := ((KeepsOthers.setCell X ⟨n1 + 1 + 1 + 1, 0, none⟩ (.int .i64 ((pre.length : Int) + 1))).trans (KeepsOthers.drew _)).from _
                gi_wp2
                refine ⟨trivial, (CallsIn.inRound l (callsIn_wide.2 (unhide HD))).mono ?_⟩
                rintro e X3 ⟨⟨u, rfl⟩, hG3, hkf3, hkp3, hB3⟩
                obtain ⟨s5, s6⟩ := unhide HCL _ hG3
                have s4 := hB3.cell
                have HT := hide (fun i => Gz.tick (B := n1 + 4) (n₀ := n1 + 4) hG3.drew (show Boxed X3.drew (n1 + 1 + 1 + 1) 3 (.int .i64 ((pre.length : Int) + 1)) from hB3) i)
                have hkp3 := hkp0.trans (hkp3.trans keptDrew)
                have hkf3 := hkf0.trans (hkf3.trans ((KeepsOthers.drew _).from _))
                clear hkp0 hkf0 HD y1 y2 y3 y4 y5 n0 n2 n3 n4 n5 R0 hG3 hB3
                gi_wp2
                obtain ⟨q, hq⟩ : ∃ q, ((pre.length : Int) + 1) % 4 = q := ⟨_, rfl⟩
                have HQ := hide hq
                clear hq
                refine wpIn_region_any hmix ?_
                refine wpAnyIn_start (fun T2 => goneTk br n1 K1.rb L1.wb pre.length q T2 (fun _ => false)) rfl fun T2 => ?_
                refine wpAnyIn_frames (fun listed a w' => ∃ l : Nat → Bool, (∀ j, l j = listed.getD j false) ∧ ((l 1 = true → l 0 = true) ∧ (l 2 = true → l 1 = true) ∧ (l 3 = true → l 2 = true) ∧ (l 5 = true → l 4 = true)) ∧ ((l 6 = false ∧ a = goneTk br n1 K1.rb L1.wb pre.length q T2 l ∧ w' = X3.drew) ∨ ((∀ j, j < 7 → l j = true) ∧ Gz w3 (L2.cut s) L1.wb (n1 + 1 + 1 + 1) s w' ∧ KeepsFrom (n1 + 4) X3.drew w' ∧ Kept (n1 + 4) (Tg L1.wb) X3.drew w' ∧ Boxed w' (n1 + 1 + 1 + 1) 3 (.int .i64 ((pre.length : Int) + 1))))) ?hback2 ?hend2 ?hstep2 _ _ _ _ ⟨fun _ => false, fun j => ?hz2, by simp, .inl ⟨rfl, rfl, rfl⟩⟩ (by simp) (left_all _)
                case hz2 => simp [Array.getD]
                case hback2 => exact back_of (by kernel_rfl)
                case hend2 =>
                  rintro a w' ⟨lf, hlf, _, ⟨h6, _⟩ | ⟨_, hG4, hkf4, hkp4, hB4⟩⟩
                  · have := hlf 6
                    rw [h6] at this
                    simp [Array.getD] at this
                  · refine ⟨by rw [hs3]; exact hkf3.trans hkf4, by rw [hs3]; exact hkp3.trans hkp4, prefix_snoc hpre (unhide HY), by simp; omega, ?_, hG4⟩
                    simpa using hB4
                case hstep2 =>
                  rintro listed i a w' ⟨lf, hlf, ⟨q1, q2, q3, q4⟩, ⟨h6, rfl, rfl⟩ | ⟨hall, _⟩⟩ hs hi hf hd K hK
                  · have hi7 : i < 7 := by simpa using hi
                    have hl' : ∀ j, (fun j => if j = i then true else lf j) j = (listed.setIfInBounds i true).getD j false := fun j => (by show (if j = i then true else lf j) = _; rw [getD_put (by rw [hs]; exact hi), hlf])
                    match i, hi7 with
                    | 0, _ =>
                      have hK' := hK _ _ ⟨_, hl', ⟨(fun _ => by simp), (fun h => by simp at h ⊢; exact q2 h), (fun h => by simp at h ⊢; exact q3 h), (fun h => by simp at h ⊢; exact q4 h)⟩, .inl ⟨by simp [h6], rfl, rfl⟩⟩
                      clear hlf hd hf hs hl' hK q1 q2 q3 q4 h6
                      refine wpOpIn_of_list rfl ?_
                      unfold goneTk at hK' ⊢
                      gi_wp2
                      simpa using hK'
                    | 1, _ =>
                      have h0 : lf 0 = true := (hlf 0).trans (hd _ rfl ⟨0, .data⟩ (by simp) rfl)
                      have hK' := hK _ _ ⟨_, hl', ⟨(fun _ => by simp [h0]), (fun _ => by simp), (fun h => by simp at h ⊢; exact q3 h), (fun h => by simp at h ⊢; exact q4 h)⟩, .inl ⟨by simp [h6], rfl, rfl⟩⟩
                      clear hlf hd hf hs hl' hK q1 q2 q3 q4 h6
                      refine wpOpIn_of_list rfl ?_
                      unfold goneTk at hK' ⊢
                      simp only [h0, cond_true]
                      gi_wp2
                      simpa [h0] using hK'
                    | 2, _ =>
                      have h1 : lf 1 = true := (hlf 1).trans (hd _ rfl ⟨1, .data⟩ (by simp) rfl)
                      have hK' := hK _ _ ⟨_, hl', ⟨(fun h => by simp at h ⊢; exact q1 h), (fun _ => by simp [h1]), (fun _ => by simp), (fun h => by simp at h ⊢; exact q4 h)⟩, .inl ⟨by simp [h6], rfl, rfl⟩⟩
                      clear hlf hd hf hs hl' hK q1 q2 q3 q4 h6
                      refine wpOpIn_of_list rfl ?_
                      unfold goneTk at hK' ⊢
                      simp only [h1, cond_true]
                      gi_wp2
                      simpa [h1] using hK'
                    | 3, _ =>
                      have h2 : lf 2 = true := (hlf 2).trans (hd _ rfl ⟨2, .data⟩ (by simp) rfl)
                      have hK' := hK _ _ ⟨_, hl', ⟨(fun h => by simp at h ⊢; exact q1 h), (fun h => by simp at h ⊢; exact q2 h), (fun _ => by simp [h2]), (fun h => by simp at h ⊢; exact q4 h)⟩, .inl ⟨by simp [h6], rfl, rfl⟩⟩
                      clear hlf hd hf hs hl' hK q1 q2 q3 q4 h6
                      refine wpOpIn_of_list rfl ?_
                      unfold goneTk at hK' ⊢
                      simp only [h2, cond_true]
                      gi_wp2
                      simpa [h2] using hK'
                    | 4, _ =>
                      have hK' := hK _ _ ⟨_, hl', ⟨(fun h => by simp at h ⊢; exact q1 h), (fun h => by simp at h ⊢; exact q2 h), (fun h => by simp at h ⊢; exact q3 h), (fun _ => by simp)⟩, .inl ⟨by simp [h6], rfl, rfl⟩⟩
                      clear hlf hd hf hs hl' hK q1 q2 q3 q4 h6
                      refine wpOpIn_of_list rfl ?_
                      unfold goneTk at hK' ⊢
                      gi_wp2
                      simpa using hK'
                    | 5, _ =>
                      have h4 : lf 4 = true := (hlf 4).trans (hd _ rfl ⟨4, .data⟩ (by simp) rfl)
                      have hK' := hK _ _ ⟨_, hl', ⟨(fun h => by simp at h ⊢; exact q1 h), (fun h => by simp at h ⊢; exact q2 h), (fun h => by simp at h ⊢; exact q3 h), (fun _ => by simp [h4])⟩, .inl ⟨by simp [h6], rfl, rfl⟩⟩
                      clear hlf hd hf hs hl' hK q1 q2 q3 q4 h6
                      refine wpOpIn_of_list rfl ?_
                      unfold goneTk at hK' ⊢
                      simp only [h4, cond_true]
                      gi_wp2
                      simp only [unhide HQ]
                      simpa [h4] using hK'
                    | 6, _ =>
                      have h3 : lf 3 = true := (hlf 3).trans (hd _ rfl ⟨3, .data⟩ (by simp) rfl)
                      have h5 : lf 5 = true := (hlf 5).trans (hd _ rfl ⟨5, .data⟩ (by simp) rfl)
                      have h2 := q3 h3
                      have h1 := q2 h2
                      have h0 := q1 h1
                      have h4 := q4 h5
                      have hK' := fun a w' hh => hK a w' ⟨_, hl', ⟨fun _ => by simp [h0], fun _ => by simp [h1], fun _ => by simp [h2], fun _ => by simp [h4]⟩, .inr hh⟩
                      have HK' := hide hK'
                      have hlall : ∀ j, j < 7 → (fun j => if j = 6 then true else lf j) j = true := (by
                        intro j hj
                        match j, hj with
                        | 0, _ => simp [h0]
                        | 1, _ => simp [h1]
                        | 2, _ => simp [h2]
                        | 3, _ => simp [h3]
                        | 4, _ => simp [h4]
                        | 5, _ => simp [h5]
                        | 6, _ => simp
                        | j + 7, h => exact absurd h (by omega))
                      have HLA := hide hlall
                      clear hlf hd hf hs hl' hK hK' hlall q1 q2 q3 q4 h6
                      refine wpOpIn_of_list rfl ?_
                      unfold goneTk
                      simp only [h3, h5, cond_true]
                      gi_wp2
                      refine ⟨trivial, (CallsIn.inRound l (callsIn_wide.2 (unhide HT _))).mono ?_⟩
                      rintro e X4 ⟨⟨u, rfl⟩, hG4, hkf4, hkp4, hB4⟩
                      gi_wp2
                      exact unhide HK' _ _ ⟨unhide HLA, hG4, hkf4, hkp4, hB4⟩
                    | i + 7, h => exact absurd h (by omega)
                  · exfalso
                    have hi7 : i < 7 := by simpa using hi
                    have h1 := hall i hi7
                    rw [hlf] at h1
                    have h2 : i < listed.size := by rw [hs]; exact hi
                    simp only [Array.getD, h2, dite_true] at h1 hf
                    rw [h1] at hf
                    cases hf
        case done =>
          rintro D xs W' hD4 rfl ⟨_, hl, hBc, hG⟩ hKD
          rw [hp3'] at hl hBc
          rw [unhide HM] at hl hBc
          show Ka _ _
          exact HEND _ D W' m (goneEn_mk rfl) hD4 hBc (by omega) hG hKD
        case stop =>
          rintro D c pre W' hD4 hpre (⟨rfl, q, x, rfl, hq, _, _, hBc, hG⟩ | hn) hKD
          · have hlen := hpre.length_le
            rw [hp3', unhide HM] at hlen
            simp at hlen
            gi_wp2
            exact HEND _ D W' kk (goneEn_mk rfl) hD4 (by rw [hq] at hBc; exact hBc) (by omega) hG hKD
          · rw [hp3'] at hpre
            exact absurd hpre hn
      · obtain rfl : i = 2 := by omega
        have hBW : Below w.heap.size w W := Kt.blw (Kt.lift hB1 (Kt.trans hE4 ⟨L, K, e1, e2, hp, hE⟩))
        obtain ⟨D2, D1, rfl⟩ : ∃ D2 D1, ds = [D2, D1] := by
          match ds, hlen with
          | [D2, D1], _ => exact ⟨D2, D1, rfl⟩
        obtain ⟨u1, _, u3⟩ := hD D2 (by simp)
        obtain ⟨v1, _, v3⟩ := hD D1 (by simp)
        have h21 : D1 < D2 := by simp at hpw; exact hpw
        have c0 := p0.cell
        have z0 := p0.frozen
        have putne : ∀ (Z : World) (l : Nat) (o : Obj) (b : Nat), b ≠ l → (Z.putObj l o).heap[b]? = Z.heap[b]? := by
          intro Z l o b hb
          simp [World.putObj, Array.getElem?_setIfInBounds]
          exact fun e => absurd e.symm hb
        go_wp2
        have hk2 : (W.setCell ⟨w.heap.size, 0, none⟩ (.bool true)).heap[D2]? = some (.deferred (some [])) := (heap_setCell_ne (by omega)).trans u1
        have hk1 : ((W.setCell ⟨w.heap.size, 0, none⟩ (.bool true)).putObj D2 (.deferred none)).heap[D1]? = some (.deferred (some [])) := (putne _ _ _ _ (by omega)).trans ((heap_setCell_ne (by omega)).trans v1)
        refine ⟨by simp, .inl ⟨_, _, rfl, run_takeDeferred hk2, ?_⟩⟩
        refine ⟨by simp, .inl ⟨_, _, rfl, run_takeDeferred hk1, ?_⟩⟩
        have hres : (((W.setCell ⟨w.heap.size, 0, none⟩ (.bool true)).putObj D2 (.deferred none)).putObj D1 (.deferred none)).cell? ⟨w.heap.size, 0, none⟩ = some (.bool true) := by
          rw [World.cell?_of_block (a := ⟨w.heap.size, 0, none⟩) (putne _ D1 _ _ (by show w.heap.size ≠ D1; omega)), World.cell?_of_block (a := ⟨w.heap.size, 0, none⟩) (putne _ D2 _ _ (by show w.heap.size ≠ D2; omega))]
          exact World.cell?_setCell_same _ _ _ c0
        refine ⟨.bool true, ?_, rfl, ?_⟩
        · simp [results, Tryz.results11, go_sem, hres]
        · exact ((hBW.setCell (p := ⟨w.heap.size, 0, none⟩) (Nat.le_refl _) _).trans (belowK_b (w := w) (Nat.le_refl _) _ D2 _ _ (by omega) hk2 rfl rfl)).trans (belowK_b (w := w) (Nat.le_refl _) _ D1 _ _ (by omega) hk1 rfl rfl)
  go_loopw [8] (fun i wr => ∃ (j : Nat) (s : St), j ≤ rn ∧ j ≤ 70 ∧ i = .int .i64 (j : Int) ∧ Kt (ownK L1 K1) w4 K1.rb L1.wb wr s) (fun i _ => 70 - (intOf i).toNat)
  case atStart => exact ⟨0, St.new 3, by omega, by omega, rfl, hp4.refl⟩
  case round =>
    obtain ⟨j, s, hj, hj70, rfl, hK⟩ := hrel
    by_cases hgo : j < rn ∧ j < 70
    · obtain ⟨hj1, hj2⟩ := hgo
      have HW := hide (fun W s (h : Kt (ownK L1 K1) w4 K1.rb L1.wb W s) => Kt.blw (Kt.lift hB1 (Kt.trans hE4 h)))
      have HP := hide (fun W s (h : Kt (ownK L1 K1) w4 K1.rb L1.wb W s) => Boxed.cell (show Boxed W br 27 (.pointer (some ⟨K1.rb, 0, none⟩)) from (h.keep p1.lt f1).trans p1))
      have p1 := unhide HP _ _ hK
      rcases hra with hra | ⟨g, o, rfl, hg, hst⟩
      · omega
      obtain ⟨K, A, B, C, c0, c1, c2, c3, iK, iA, iB, iC⟩ := hst j hj1
      have hbw := unhide HW _ _ hK
      have m0 := (hbw.cell (p := ⟨g, _, none⟩) hg).trans c0
      have m1 := (hbw.cell (p := ⟨g, _, none⟩) hg).trans c1
      have m2 := (hbw.cell (p := ⟨g, _, none⟩) hg).trans c2
      have m3 := (hbw.cell (p := ⟨g, _, none⟩) hg).trans c3
      have hst := hide (step_any hK.drew K A B C iK iA iB iC)
      have hji : (j : Int) < (rn : Int) := by omega
      clear hbw
      go_wp2_with fail
      go_region_held3 (fun w' => w'.cell? ⟨br, 0, none⟩ = some (.pointer (some ⟨K1.rb, 0, none⟩)) ∧ w'.cell? ⟨g, o + j * 4, none⟩ = some (.int .i64 K) ∧ w'.cell? ⟨g, o + j * 4 + 1, none⟩ = some (.int .i64 A) ∧ w'.cell? ⟨g, o + j * 4 + 2, none⟩ = some (.int .i64 B) ∧ w'.cell? ⟨g, o + j * 4 + 3, none⟩ = some (.int .i64 C)) (go_keep)
        (first
          | (go_at_call 16; refine (unhide hst).mono ?_; rintro e w5 ⟨rfl, hK5⟩; have hbw := unhide HW _ _ hK5; have t0 := unhide HP _ _ hK5; have t1 := (hbw.cell (p := ⟨g, o + j * 4, none⟩) hg).trans c0; have t2 := (hbw.cell (p := ⟨g, o + j * 4 + 1, none⟩) hg).trans c1; have t3 := (hbw.cell (p := ⟨g, o + j * 4 + 2, none⟩) hg).trans c2; have t4 := (hbw.cell (p := ⟨g, o + j * 4 + 3, none⟩) hg).trans c3))
      go_wp2
      exact ⟨⟨j + 1, _, by omega, by omega, by go_num, hK5⟩, by simp [intOf]; omega⟩
    · have hKr := hK
      by_cases hjr : j < rn
      · have hj70' : ¬ (j : Int) < 70 := by omega
        clear hgo
        go_wp2
        exact HREST _ _ _ _ _ _ _ _ _ _ _ _ _ _ _ _ _ _ _ _ _ _ _ _ _ _ _ _ _ _ _ _ _ _ _ _ _ _ _ _ _ _ _ _ _ _ _ _ _ _ _ _ _ _ _ _ _ _ _ _ _ _ _ _ _ _ _ _ _ _ _ _ _ _ _ _ _ _ _ _ _ _ _ _ _ _ _ _ _ _ _ _ _ _ _ _ _ _ _ _ _ _ _ _ _ _ _ _ _ wr s hKr
      · clear hgo
        go_wp2
        exact HREST _ _ _ _ _ _ _ _ _ _ _ _ _ _ _ _ _ _ _ _ _ _ _ _ _ _ _ _ _ _ _ _ _ _ _ _ _ _ _ _ _ _ _ _ _ _ _ _ _ _ _ _ _ _ _ _ _ _ _ _ _ _ _ _ _ _ _ _ _ _ _ _ _ _ _ _ _ _ _ _ _ _ _ _ _ _ _ _ _ _ _ _ _ _ _ _ _ _ _ _ _ _ _ _ _ _ _ _ _ wr s hKr
end Go.Proofs.YtekbjlhbjcikdaaGreat
