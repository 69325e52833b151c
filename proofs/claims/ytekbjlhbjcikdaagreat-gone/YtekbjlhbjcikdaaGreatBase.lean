/-
  How the plain model's world lies in memory, and what stays when blocks that it does not own are turned.
-/
import Derived.Test.YtekbjlhbjcikdaaGreatRows
import Derived.Test.YtekbjlhbjcikdaaGreatLocks
import Derived.Test.YtekbjlhbjcikdaaGreatPure
import Derived.WalkKit
import Derived.WalkSpells
import Derived.Conc.MuLone
namespace Go.Proofs.YtekbjlhbjcikdaaGreat
open Go.RowKit Acc

theorem hide {p : Prop} (h : p) : Hid p := h
theorem unhide {p : Prop} (h : Hid p) : p := h

structure Sl where
  a : Option Addr
  n : Nat
  cap : Nat

inductive Tag where
  | world | nodes | all | log (i : Nat) | deals | deal (t : Nat) | fly

structure Lay where
  wb : Nat
  nb : Nat
  ab : Nat
  lv : Nat → Sl
  dv : Sl
  dl : Nat → Sl
  fv : Sl
  own : Nat → Option Tag

def i64 (x : Int) : Value := .int .i64 x
def recCells : List (Nat × Nat) → List Value
  | [] => []
  | x :: r => .int .i64 x.1 :: .int .i64 x.2 :: recCells r
def wrCells : List Wr → List Value
  | [] => []
  | x :: r => .int .i64 x.part :: .int .i64 x.key :: .int .i64 x.val :: wrCells r
def msgCells : List Msg → List Value
  | [] => []
  | x :: r => .int .i64 x.kind :: .int .i64 x.frm :: .int .i64 x.to :: .int .i64 x.trans :: msgCells r
def slCells (f : Nat → Sl) : Nat → List Value
  | 0 => []
  | n + 1 => slCells f n ++ [.slice (f n).a (f n).n (f n).cap]

/-- A slice that has an array for itself, and what the array holds. -/
def Owns (w : World) (e size : Nat) (s : Sl) (xs : List Value) : Prop := w.ownsRow 0 e size (.slice s.a s.n s.cap) s.n xs
/-- Its array bears this tag. -/
def Tagged (own : Nat → Option Tag) (s : Sl) (t : Tag) : Prop := ∀ a, s.a = some a → own a.block = some t

structure Rep (w : World) (L : Lay) (s : St) : Prop where
  c0 : w.cell? ⟨L.nb, 0, none⟩ = some (.slice (some ⟨L.ab, 0, none⟩) (s.parts + 1) (s.parts + 1))
  c1 : w.cell? ⟨L.nb, 1, none⟩ = some (.slice L.dv.a L.dv.n L.dv.cap)
  cn : ∀ t m, t < 13 → m < 6 → w.cell? ⟨L.nb, 2 + (6 * t + m), none⟩ = some (.bool (s.noted t m))
  cf : w.cell? ⟨L.nb, 80, none⟩ = some (.slice L.fv.a L.fv.n L.fv.cap)
  fz : ∀ k, w.frozen? ⟨L.nb, k, none⟩ = false
  ca : ∀ i, i ≤ s.parts → w.cell? ⟨L.ab, i * 4, none⟩ = some (.slice (L.lv i).a (L.lv i).n (L.lv i).cap)
  cd : ∀ i, i ≤ s.parts → w.cell? ⟨L.ab, i * 4 + 1, none⟩ = some (.bool (!s.up i))
  cb : ∀ i, i ≤ s.parts → w.cell? ⟨L.ab, i * 4 + 2, none⟩ = some (.bool (s.fuse i).isSome)
  cu : ∀ i, i ≤ s.parts → w.cell? ⟨L.ab, i * 4 + 3, none⟩ = some (.int .i64 ((s.fuse i).getD 0 : Nat))
  fa : ∀ k, w.frozen? ⟨L.ab, k, none⟩ = false
  ol : ∀ i, i ≤ s.parts → Owns w 43 2 (L.lv i) (recCells (s.log i))
  od : Owns w 133 1 L.dv (slCells L.dl s.deals.length)
  ow : ∀ t, t < s.deals.length → Owns w 74 3 (L.dl t) (wrCells (s.deals.getD t []))
  om : Owns w 109 4 L.fv (msgCells s.fly)
  tn : L.own L.nb = some .nodes
  ta : L.own L.ab = some .all
  tl : ∀ i, i ≤ s.parts → Tagged L.own (L.lv i) (.log i)
  td : Tagged L.own L.dv .deals
  tw : ∀ t, t < s.deals.length → Tagged L.own (L.dl t) (.deal t)
  tf : Tagged L.own L.fv .fly
  lt : ∀ b t, L.own b = some t → b < w.heap.size

theorem recCells_length (l : List (Nat × Nat)) : (recCells l).length = l.length * 2 := by
  induction l with
  | nil => rfl
  | cons x r ih => simp [recCells, ih]; omega
theorem wrCells_length (l : List Wr) : (wrCells l).length = l.length * 3 := by
  induction l with
  | nil => rfl
  | cons x r ih => simp [wrCells, ih]; omega
theorem msgCells_length (l : List Msg) : (msgCells l).length = l.length * 4 := by
  induction l with
  | nil => rfl
  | cons x r ih => simp [msgCells, ih]; omega
theorem slCells_length (f : Nat → Sl) (n : Nat) : (slCells f n).length = n := by
  induction n with
  | zero => rfl
  | succ n ih => simp [slCells, ih]
theorem recCells_append (a b : List (Nat × Nat)) : recCells (a ++ b) = recCells a ++ recCells b := by
  induction a with
  | nil => rfl
  | cons x r ih => simp [recCells, ih]
theorem wrCells_append (a b : List Wr) : wrCells (a ++ b) = wrCells a ++ wrCells b := by
  induction a with
  | nil => rfl
  | cons x r ih => simp [wrCells, ih]
theorem msgCells_append (a b : List Msg) : msgCells (a ++ b) = msgCells a ++ msgCells b := by
  induction a with
  | nil => rfl
  | cons x r ih => simp [msgCells, ih]
theorem recCells_get (l : List (Nat × Nat)) (i : Nat) (x : Nat × Nat) (h : l[i]? = some x) :
    (recCells l)[2 * i]? = some (.int .i64 x.1) ∧ (recCells l)[2 * i + 1]? = some (.int .i64 x.2) := by
  induction l generalizing i with
  | nil => simp at h
  | cons y r ih =>
    cases i with
    | zero => simp at h; subst h; simp [recCells]
    | succ i =>
      have := ih i (by simpa using h)
      rw [show 2 * (i + 1) = 2 * i + 1 + 1 from by omega]
      simpa [recCells] using this
theorem wrCells_get (l : List Wr) (i : Nat) (x : Wr) (h : l[i]? = some x) :
    (wrCells l)[3 * i]? = some (.int .i64 x.part) ∧ (wrCells l)[3 * i + 1]? = some (.int .i64 x.key) ∧ (wrCells l)[3 * i + 2]? = some (.int .i64 x.val) := by
  induction l generalizing i with
  | nil => simp at h
  | cons y r ih =>
    cases i with
    | zero => simp at h; subst h; simp [wrCells]
    | succ i =>
      have := ih i (by simpa using h)
      rw [show 3 * (i + 1) = 3 * i + 1 + 1 + 1 from by omega]
      simpa [wrCells] using this
theorem msgCells_get (l : List Msg) (i : Nat) (x : Msg) (h : l[i]? = some x) :
    (msgCells l)[4 * i]? = some (.int .i64 x.kind) ∧ (msgCells l)[4 * i + 1]? = some (.int .i64 x.frm) ∧ (msgCells l)[4 * i + 2]? = some (.int .i64 x.to) ∧ (msgCells l)[4 * i + 3]? = some (.int .i64 x.trans) := by
  induction l generalizing i with
  | nil => simp at h
  | cons y r ih =>
    cases i with
    | zero => simp at h; subst h; simp [msgCells]
    | succ i =>
      have := ih i (by simpa using h)
      rw [show 4 * (i + 1) = 4 * i + 1 + 1 + 1 + 1 from by omega]
      simpa [msgCells] using this
theorem slCells_get (f : Nat → Sl) (n i : Nat) (h : i < n) : (slCells f n)[i]? = some (.slice (f i).a (f i).n (f i).cap) := by
  induction n with
  | zero => omega
  | succ n ih =>
    by_cases hi : i < n
    · simp only [slCells]; rw [List.getElem?_append_left (by rw [slCells_length]; exact hi)]; exact ih hi
    · have : i = n := by omega
      subst this
      simp only [slCells]; rw [List.getElem?_append_right (by rw [slCells_length]; exact Nat.le_refl _)]; simp [slCells_length]
theorem slCells_congr (f g : Nat → Sl) (n : Nat) (h : ∀ i, i < n → f i = g i) : slCells f n = slCells g n := by
  induction n with
  | zero => rfl
  | succ n ih => simp [slCells, ih (fun i hi => h i (by omega)), h n (by omega)]

/-- The length of an owned slice is the list's. -/
theorem Owns.len {w : World} {e size : Nat} {s : Sl} {xs : List Value} (h : Owns w e size s xs) : xs.length = s.n * size := h.1
/-- Of an owned slice with something in it: its block, and a cell of it. -/
theorem Owns.at {w : World} {e size : Nat} {s : Sl} {xs : List Value} (h : Owns w e size s xs) (hn : 0 < s.n) :
    ∃ g, s.a = some ⟨g, 0, none⟩ ∧ s.n ≤ s.cap ∧ (∀ j, w.frozen? ⟨g, j, none⟩ = false) ∧ ∀ j u, xs[j]? = some u → w.cell? ⟨g, j, none⟩ = some u := by
  rcases h.2 with ⟨_, h0⟩ | ⟨g, cap, cur, hv, _, hg, hc, _, _, htake⟩
  · omega
  · injection hv with h1 h2 h3
    subst h3
    refine ⟨g, h1, hc, ?_, ?_⟩
    · intro j; simp [World.frozen?, hg]
    · intro j u hu
      rw [cell_of_row w g j cur e (0, 0) hg]
      rw [← htake, List.getElem?_take] at hu
      split at hu
      · simpa using hu
      · cases hu
theorem Owns.cap_le {w : World} {e size : Nat} {s : Sl} {xs : List Value} (h : Owns w e size s xs) : s.n ≤ s.cap ∧ s.cap ≤ maxLen := by
  rcases h.2 with ⟨hv, h0⟩ | ⟨g, cap, cur, hv, _, hg, hc, hm, _, htake⟩
  · injection hv with h1 h2 h3
    simp [h2, h3]
  · injection hv with h1 h2 h3
    subst h3; exact ⟨hc, hm⟩
theorem Owns.frame {w w' : World} {e size : Nat} {s : Sl} {xs : List Value} (h : Owns w e size s xs)
    (hb : ∀ a, s.a = some a → w'.heap[a.block]? = w.heap[a.block]?) : Owns w' e size s xs := by
  refine ⟨h.1, ?_⟩
  rcases h.2 with hn | ⟨g, cap, cur, hv, h0, hg, r⟩
  · exact .inl hn
  · refine .inr ⟨g, cap, cur, hv, h0, ?_, r⟩
    injection hv with h1 h2 h3
    rw [hb _ h1]; exact hg
theorem Owns.lt {w : World} {e size : Nat} {s : Sl} {xs : List Value} (h : Owns w e size s xs) : ∀ a, s.a = some a → a.block < w.heap.size := by
  intro a ha
  rcases h.2 with ⟨hv, h0⟩ | ⟨g, cap, cur, hv, _, hg, _⟩
  · injection hv with h1; rw [ha] at h1; cases h1
  · injection hv with h1; rw [ha] at h1; injection h1 with h1; subst h1
    exact (Array.getElem?_eq_some_iff.1 hg).1

/-- Nothing that the world owns has turned: it lies as it lay. -/
theorem Rep.frame {w w' : World} {L : Lay} {s : St} (h : Rep w L s) (hs : w.heap.size ≤ w'.heap.size)
    (hb : ∀ b t, L.own b = some t → w'.heap[b]? = w.heap[b]?) : Rep w' L s where
  c0 := (World.cell?_of_block (hb _ _ h.tn)).trans h.c0
  c1 := (World.cell?_of_block (hb _ _ h.tn)).trans h.c1
  cn := fun t m ht hm => (World.cell?_of_block (hb _ _ h.tn)).trans (h.cn t m ht hm)
  cf := (World.cell?_of_block (hb _ _ h.tn)).trans h.cf
  fz := fun k => (World.frozen?_of_block (hb _ _ h.tn)).trans (h.fz k)
  ca := fun i hi => (World.cell?_of_block (hb _ _ h.ta)).trans (h.ca i hi)
  cd := fun i hi => (World.cell?_of_block (hb _ _ h.ta)).trans (h.cd i hi)
  cb := fun i hi => (World.cell?_of_block (hb _ _ h.ta)).trans (h.cb i hi)
  cu := fun i hi => (World.cell?_of_block (hb _ _ h.ta)).trans (h.cu i hi)
  fa := fun k => (World.frozen?_of_block (hb _ _ h.ta)).trans (h.fa k)
  ol := fun i hi => (h.ol i hi).frame fun a ha => hb _ _ (h.tl i hi a ha)
  od := h.od.frame fun a ha => hb _ _ (h.td a ha)
  ow := fun t ht => (h.ow t ht).frame fun a ha => hb _ _ (h.tw t ht a ha)
  om := h.om.frame fun a ha => hb _ _ (h.tf a ha)
  tn := h.tn
  ta := h.ta
  tl := h.tl
  td := h.td
  tw := h.tw
  tf := h.tf
  lt := fun b t hbt => Nat.lt_of_lt_of_le (h.lt b t hbt) hs

theorem Rep.below {w w' : World} {L : Lay} {s : St} (h : Rep w L s) (hb : Below w.heap.size w w') : Rep w' L s :=
  h.frame hb.size fun b t hbt => hb.block b (h.lt b t hbt)

/-- What a call may have done: it has turned blocks of its own alone, and taken new ones. -/
structure Ext {τ : Type} (o : Nat → Option τ) (w : World) (o' : Nat → Option τ) (w' : World) : Prop where
  os : w'.os = w.os
  tape : w'.tape = w.tape
  output : w'.output = w.output
  size : w.heap.size ≤ w'.heap.size
  keep : ∀ b, b < w.heap.size → o b = none → w'.heap[b]? = w.heap[b]? ∧ o' b = none

theorem Ext.refl {τ : Type} (o : Nat → Option τ) (w : World) : Ext o w o w := ⟨rfl, rfl, rfl, Nat.le_refl _, fun _ _ h => ⟨rfl, h⟩⟩
theorem Ext.trans {τ : Type} {o o' o'' : Nat → Option τ} {w w' w'' : World} (h : Ext o w o' w') (k : Ext o' w' o'' w'') : Ext o w o'' w'' :=
  ⟨k.os.trans h.os, k.tape.trans h.tape, k.output.trans h.output, Nat.le_trans h.size k.size, fun b hb ho => by
    obtain ⟨h1, h2⟩ := h.keep b hb ho
    obtain ⟨k1, k2⟩ := k.keep b (Nat.lt_of_lt_of_le hb h.size) h2
    exact ⟨k1.trans h1, k2⟩⟩
theorem Ext.of_below {τ : Type} {o : Nat → Option τ} {w w' : World} (h : Below w.heap.size w w') : Ext o w o w' :=
  ⟨h.os, h.tape, h.output, h.size, fun b hb ho => ⟨h.block b hb, ho⟩⟩

end Go.Proofs.YtekbjlhbjcikdaaGreat
