/-
  Walks of the crash, of the fuse, and of the two acts: write and send.
-/
import Derived.Test.YtekbjlhbjcikdaaGreatUpd
import Derived.Deep.RegionLaw
import Derived.Deep.DeepMust
import Derived.Laws.IdiomCopy
namespace Go.Proofs.YtekbjlhbjcikdaaGreat
open Go.RowKit Acc

/-- A call that ends, and leaves the world of the plain model in memory. -/
def Leaves (L : Lay) (w : World) (s' : St) (w' : World) : Prop := ∃ L', L'.wb = L.wb ∧ L'.nb = L.nb ∧ Rep w' L' s' ∧ Ext L.own w L'.own w'
theorem Leaves.trans {L L1 : Lay} {w w1 w2 : World} {s : St} (hw : L1.wb = L.wb) (hn : L1.nb = L.nb) (he : Ext L.own w L1.own w1) (h : Leaves L1 w1 s w2) : Leaves L w s w2 := by
  obtain ⟨L2, a, b, c, d⟩ := h
  exact ⟨L2, a.trans hw, b.trans hn, c, he.trans d⟩
theorem Leaves.below {L : Lay} {w w1 w2 : World} {s : St} (h : Below w.heap.size w w1) (k : Leaves L w1 s w2) : Leaves L w s w2 :=
  Leaves.trans rfl rfl (Ext.of_below h) k
theorem Leaves.then_below {L : Lay} {w w1 w2 : World} {s : St} (k : Leaves L w s w1) (h : Below w1.heap.size w1 w2) : Leaves L w s w2 := by
  obtain ⟨L2, a, b, c, d⟩ := k
  exact ⟨L2, a, b, c.below h, d.trans (Ext.of_below h)⟩
theorem Leaves.same {L : Lay} {w w' : World} {s : St} (h : Rep w L s) (hb : Below w.heap.size w w') : Leaves L w s w' := ⟨L, rfl, rfl, h.below hb, Ext.of_below hb⟩

/-- How a call ends that may crash a node: it returns, or it gives up by panic with the node's number. -/
def endOf (n : Nat) (ok : Bool) : Ending := if ok then .returned (.tuple #[]) else .panicked [{ v := .iface 150 (.int .i64 n), recovered := false }]
/-- Such a call's contract. -/
def Acts (L : Lay) (w : World) (n : Nat) (r : St × Bool) (e : Ending) (w' : World) : Prop := e = endOf n r.2 ∧ Leaves L w r.1 w'
theorem Acts.trans {L L1 : Lay} {w w1 w2 : World} {n : Nat} {r : St × Bool} {e : Ending} (hw : L1.wb = L.wb) (hn : L1.nb = L.nb) (he : Ext L.own w L1.own w1) (h : Acts L1 w1 n r e w2) : Acts L w n r e w2 := ⟨h.1, h.2.trans hw hn he⟩
theorem Acts.below {L : Lay} {w w1 w2 : World} {n : Nat} {r : St × Bool} {e : Ending} (h : Below w.heap.size w w1) (k : Acts L w1 n r e w2) : Acts L w n r e w2 := ⟨k.1, k.2.below h⟩

theorem setCells_block (b : Nat) : ∀ (vs : List Value) (o : Nat) (w : World) (k : Nat), k ≠ b → (w.setCells b o vs).heap[k]? = w.heap[k]?
  | [], _, _, _, _ => rfl
  | v :: r, o, w, k, h => by rw [World.setCells, setCells_block b r (o + 1) _ k h]; exact block_setCell h
theorem setCells_size (b : Nat) : ∀ (vs : List Value) (o : Nat) (w : World), (w.setCells b o vs).heap.size = w.heap.size ∧ (w.setCells b o vs).os = w.os ∧ (w.setCells b o vs).tape = w.tape ∧ (w.setCells b o vs).output = w.output
  | [], _, _ => ⟨rfl, rfl, rfl, rfl⟩
  | v :: r, o, w => by
    rw [World.setCells]
    have := setCells_size b r (o + 1) (w.setCell ⟨b, o, none⟩ v)
    exact ⟨this.1.trans (by simp [World.setCell]), this.2.1, this.2.2.1, this.2.2.2⟩

/-- The votes are forgotten. -/
theorem Rep.unnoted {w : World} {L : Lay} {s : St} (h : Rep w L s) (vs : List Value) (hv : vs.length = 78) (hvs : ∀ j (hj : j < vs.length), vs[j] = .bool false) : Rep (w.setCells L.nb 2 vs) L { s with noted := fun _ _ => false } := by
  have hb : ∀ k, k ≠ L.nb → (w.setCells L.nb 2 vs).heap[k]? = w.heap[k]? := fun k hk => setCells_block _ _ _ _ k hk
  have hs := (setCells_size L.nb vs 2 w).1
  have ba := hb _ (tag_ne h.ta h.tn (by simp))
  have out : ∀ k, (k < 2 ∨ 80 ≤ k) → (w.setCells L.nb 2 vs).cell? ⟨L.nb, k, none⟩ = w.cell? ⟨L.nb, k, none⟩ := fun k hk => World.cell?_setCells_out _ _ _ _ _ (fun _ _ => by simp only [hv]; omega)
  refine ⟨(out 0 (by omega)).trans h.c0, (out 1 (by omega)).trans h.c1, ?_, (out 80 (by omega)).trans h.cf, fun k => (World.frozen?_setCells _ _ _ _ _).trans (h.fz k),
    fun i hi => (World.cell?_of_block ba).trans (h.ca i hi), fun i hi => (World.cell?_of_block ba).trans (h.cd i hi), fun i hi => (World.cell?_of_block ba).trans (h.cb i hi), fun i hi => (World.cell?_of_block ba).trans (h.cu i hi), fun k => (World.frozen?_of_block ba).trans (h.fa k),
    fun i hi => (h.ol i hi).frame fun a ha => hb _ (tag_ne (h.tl i hi a ha) h.tn (by simp)), h.od.frame fun a ha => hb _ (tag_ne (h.td a ha) h.tn (by simp)), fun t ht => (h.ow t ht).frame fun a ha => hb _ (tag_ne (h.tw t ht a ha) h.tn (by simp)),
    h.om.frame fun a ha => hb _ (tag_ne (h.tf a ha) h.tn (by simp)), h.tn, h.ta, h.tl, h.td, h.tw, h.tf, fun b t hbt => by rw [hs]; exact h.lt b t hbt⟩
  intro t m ht hm
  have hj : 6 * t + m < vs.length := by omega
  have := World.cell?_setCells_in L.nb vs 2 w (fun j hj => by
    rw [hv] at hj
    have := h.cn (j / 6) (j % 6) (by omega) (by omega)
    rw [show 2 + (6 * (j / 6) + j % 6) = 2 + j from by omega] at this
    rw [this]; rfl) (6 * t + m) hj
  rw [this, hvs]

theorem cell_same {w : World} {b k : Nat} {u v : Value} (h : w.cell? ⟨b, k, none⟩ = some u) : (w.setCell ⟨b, k, none⟩ v).cell? ⟨b, k, none⟩ = some v := World.cell?_setCell_same _ _ _ h
theorem cell_other {w : World} {b k j : Nat} {v : Value} (h : j ≠ k) : (w.setCell ⟨b, k, none⟩ v).cell? ⟨b, j, none⟩ = w.cell? ⟨b, j, none⟩ :=
  World.cell?_setCell_other _ _ _ _ (by intro e; injection e with _ e; exact h e.symm)

/-- One node is up or not, and has a fuse or not: the three cells that say so. -/
theorem Rep.fate {w w' : World} {L : Lay} {s : St} (h : Rep w L s) (n : Nat) (u : Bool) (f : Option Nat) (hs : w'.heap.size = w.heap.size) (hb : ∀ b, b ≠ L.ab → w'.heap[b]? = w.heap[b]?)
    (hc : ∀ k, k ≠ n * 4 + 1 → k ≠ n * 4 + 2 → k ≠ n * 4 + 3 → w'.cell? ⟨L.ab, k, none⟩ = w.cell? ⟨L.ab, k, none⟩) (hf : ∀ k, w'.frozen? ⟨L.ab, k, none⟩ = false)
    (h1 : w'.cell? ⟨L.ab, n * 4 + 1, none⟩ = some (.bool (!u))) (h2 : w'.cell? ⟨L.ab, n * 4 + 2, none⟩ = some (.bool f.isSome)) (h3 : w'.cell? ⟨L.ab, n * 4 + 3, none⟩ = some (.int .i64 (f.getD 0 : Nat))) :
    Rep w' L { s with up := fun i => if i = n then u else s.up i, fuse := fun i => if i = n then f else s.fuse i } := by
  refine h.turned _ _ hs hb (fun i hi => hc _ (by omega) (by omega) (by omega)) ?_ ?_ ?_ hf
  · intro i hi
    by_cases e : i = n
    · subst e; simpa using h1
    · simp only [if_neg e]; exact (hc _ (by omega) (by omega) (by omega)).trans (h.cd i hi)
  · intro i hi
    by_cases e : i = n
    · subst e; simpa using h2
    · simp only [if_neg e]; exact (hc _ (by omega) (by omega) (by omega)).trans (h.cb i hi)
  · intro i hi
    by_cases e : i = n
    · subst e; simpa using h3
    · simp only [if_neg e]; exact (hc _ (by omega) (by omega) (by omega)).trans (h.cu i hi)

theorem Tryz.zeroVotes : Tryz.zeroCells122.toList = List.replicate 78 (.bool false) := by kernel_rfl

/-- A node is down: what of it stands in the nodes' cells. -/
theorem Rep.downed {w : World} {L : Lay} {s : St} (h : Rep w L s) (n : Nat) (hn : n ≤ s.parts) :
    Rep (((w.setCell ⟨L.ab, n * 4 + 1, none⟩ (.bool true)).setCell ⟨L.ab, n * 4 + 2, none⟩ (.bool false)).setCell ⟨L.ab, n * 4 + 2 + 1, none⟩ (.int .i64 0)) L
      { s with up := fun i => if i = n then false else s.up i, fuse := fun i => if i = n then none else s.fuse i } := by
  have cd := h.cd n hn
  have cb := h.cb n hn
  have cu := h.cu n hn
  refine h.fate n false none (by simp [World.setCell]) (fun b hb => by rw [block_setCell hb, block_setCell hb, block_setCell hb]) (fun k h1 h2 h3 => by rw [cell_other (by omega), cell_other (by omega), cell_other (by omega)]) (fun k => by simpa using h.fa k) ?_ ?_ ?_
  · rw [cell_other (by omega), cell_other (by omega), cell_same cd]; rfl
  · rw [cell_other (by omega), cell_same (u := .bool (s.fuse n).isSome) ((cell_other (by omega)).trans cb)]; rfl
  · rw [show n * 4 + 3 = n * 4 + 2 + 1 from rfl, cell_same (u := .int .i64 ((s.fuse n).getD 0 : Nat)) ((cell_other (by omega)).trans ((cell_other (by omega)).trans cu))]; rfl

theorem ext_ab {w w' : World} {L : Lay} {s : St} (h : Rep w L s) (hos : w'.os = w.os) (ht : w'.tape = w.tape) (ho : w'.output = w.output) (hs : w'.heap.size = w.heap.size) (hb : ∀ b, b ≠ L.ab → b ≠ L.nb → w'.heap[b]? = w.heap[b]?) : Ext L.own w L.own w' :=
  ⟨hos, ht, ho, by omega, fun b _ hn => ⟨hb b (fun e => by rw [e, h.ta] at hn; cases hn) (fun e => by rw [e, h.tn] at hn; cases hn), hn⟩⟩

set_option maxRecDepth 100000 in
set_option maxHeartbeats 1000000 in
theorem nodesCrash_any {w : World} {L : Lay} {s : St} (h : Rep w L s) (_hp5 : s.parts ≤ 5) (n : Nat) (hn : n ≤ s.parts) :
    Calls Tryz.prog 54 #[.pointer (some ⟨L.nb, 0, none⟩), .int .i64 n] w fun e w' => e = .returned (.tuple #[]) ∧ Leaves L w (s.down n) w' := by
  have c0 := h.c0
  have cd := h.cd n hn
  have cb := h.cb n hn
  have cu := h.cu n hn
  have f1 := h.fa (n * 4 + 1)
  have f2 := h.fa (n * 4 + 2)
  have f3 := h.fa (n * 4 + 3)
  have nab : L.nb ≠ L.ab := tag_ne h.tn h.ta (by simp)
  have hd := hide (h.downed n hn)
  by_cases h0 : n = 0
  · have q0 : ((n : Int) == 0) = true := by rw [h0]; rfl
    have H0 := hide h0
    clear h0
    have hR := (unhide hd).unnoted Tryz.zeroCells122.toList (by rw [Tryz.zeroVotes, List.length_replicate]) (fun j hj => by simp only [Tryz.zeroVotes, List.getElem_replicate])
    have hsc := run_storeCells_cells (P := Tryz.prog) L.nb 2 (List.replicate 78 (.bool false)) 0 _ (fun j hj => by
      simp at hj
      have := (unhide hd).cn (j / 6) (j % 6) (by omega) (by omega)
      rw [show 2 + (6 * (j / 6) + j % 6) = 2 + 0 + j from by omega] at this
      rw [this]; rfl) (fun j hj => (unhide hd).fz _) (fun v hv => by rw [List.eq_of_mem_replicate hv]; rfl)
    rw [← Tryz.zeroVotes, Nat.add_zero] at hsc
    have HSC := hide hsc
    have HR := hide hR
    clear hsc hR
    go_enter Tryz.func54, Tryz.ntmps54
    go_wp2
    rw [unhide HSC]
    go_wp2
    go_end0
    refine ⟨rfl, L, rfl, rfl, ?_, ?_⟩
    · have e : s.down n = { ({ s with up := fun i => if i = n then false else s.up i, fuse := fun i => if i = n then none else s.fuse i } : St) with noted := fun _ _ => false } := by unfold St.down; rw [if_pos (unhide H0)]
      rw [e]
      exact unhide HR
    · have z := setCells_size L.nb Tryz.zeroCells122.toList 2 (((w.setCell ⟨L.ab, n * 4 + 1, none⟩ (.bool true)).setCell ⟨L.ab, n * 4 + 2, none⟩ (.bool false)).setCell ⟨L.ab, n * 4 + 2 + 1, none⟩ (.int .i64 0))
      exact ext_ab h z.2.1 z.2.2.1 z.2.2.2 (z.1.trans (by simp [World.setCell])) (fun b h1 h2 => by rw [setCells_block _ _ _ _ _ h2, block_setCell h1, block_setCell h1, block_setCell h1])
  · have q0 : ((n : Int) == 0) = false := by rw [beq_eq_false_iff_ne]; omega
    have H0 := hide h0
    clear h0
    go_enter Tryz.func54, Tryz.ntmps54
    go_wp2
    go_end0
    refine ⟨rfl, L, rfl, rfl, ?_, ext_ab h rfl rfl rfl (by simp [World.setCell]) (fun b h1 _ => by rw [block_setCell h1, block_setCell h1, block_setCell h1])⟩
    have e : s.down n = { s with up := fun i => if i = n then false else s.up i, fuse := fun i => if i = n then none else s.fuse i } := by unfold St.down; rw [if_neg (unhide H0)]
    rw [e]
    exact unhide hd

end Go.Proofs.YtekbjlhbjcikdaaGreat
