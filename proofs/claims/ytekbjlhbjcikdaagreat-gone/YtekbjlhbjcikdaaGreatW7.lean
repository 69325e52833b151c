/-
  Walks of the fuse, and of the two acts: write and send; of answer.
-/
import Derived.Test.YtekbjlhbjcikdaaGreatW6
import Derived.WalkSmall
namespace Go.Proofs.YtekbjlhbjcikdaaGreat
open Go.RowKit Acc

theorem Acts.cases {L : Lay} {w w' : World} {n : Nat} {r : St × Bool} {e : Ending} (h : Acts L w n r e w') :
    (Hid (r.2 = true) ∧ e = .returned (.tuple #[]) ∧ Leaves L w r.1 w') ∨ (Hid (r.2 = false) ∧ e = .panicked [{ v := .iface 150 (.int .i64 n), recovered := false }] ∧ Leaves L w r.1 w') := by
  obtain ⟨rfl, hl⟩ := h
  cases hr : r.2 with
  | true => exact .inl ⟨hide rfl, rfl, hl⟩
  | false => exact .inr ⟨hide rfl, rfl, hl⟩
theorem Acts.ret {L : Lay} {w w' : World} {n : Nat} {r : St × Bool} (h : r.2 = true) (hl : Leaves L w r.1 w') : Acts L w n r (.returned (.tuple #[])) w' := ⟨by rw [h]; rfl, hl⟩
theorem Acts.pan {L : Lay} {w w' : World} {n : Nat} {r : St × Bool} (h : r.2 = false) (hl : Leaves L w r.1 w') : Acts L w n r (.panicked [{ v := .iface 150 (.int .i64 n), recovered := false }]) w' := ⟨by rw [h]; rfl, hl⟩
theorem Acts.ret' {L : Lay} {w w' : World} {n : Nat} {r : St × Bool} {s : St} (h : r = (s, true)) (hl : Leaves L w s w') : Acts L w n r (.returned (.tuple #[])) w' := by subst h; exact ⟨rfl, hl⟩
theorem Acts.pan' {L : Lay} {w w' : World} {n : Nat} {r : St × Bool} {s : St} (h : r = (s, false)) (hl : Leaves L w s w') : Acts L w n r (.panicked [{ v := .iface 150 (.int .i64 n), recovered := false }]) w' := by subst h; exact ⟨rfl, hl⟩

/-- The fuse burns ahead of an act. -/
def burnt (s : St) (n : Nat) : St × Bool := if s.fuse n = some 0 then (s.down n, false) else (s.burn n, true)
theorem does_cons (s : St) (n : Nat) (a : Deed) (l : List Deed) : s.does n (a :: l) = andThen (burnt s n) fun s' => (s'.act n a).does n l := by
  unfold burnt
  simp only [St.does]
  by_cases h : s.fuse n = some 0
  · simp [h, andThen]
  · simp [h, andThen]

theorem Rep.burnt {w : World} {L : Lay} {s : St} (h : Rep w L s) (n k : Nat) (hn : n ≤ s.parts) (hf : s.fuse n = some (k + 1)) : Leaves L w (s.burn n) (w.setCell ⟨L.ab, n * 4 + 2 + 1, none⟩ (.int .i64 k)) := by
  refine ⟨L, rfl, rfl, ?_, ext_ab h rfl rfl rfl (by simp [World.setCell]) (fun b h1 _ => block_setCell h1)⟩
  have := h.fate (w' := w.setCell ⟨L.ab, n * 4 + 2 + 1, none⟩ (.int .i64 k)) n (s.up n) (some k) (by simp [World.setCell]) (fun b hb => block_setCell hb) (fun j _ _ h3 => cell_other (by omega)) (fun j => by simpa using h.fa j)
    ((cell_other (by omega)).trans (h.cd n hn)) (by rw [cell_other (by omega), h.cb n hn, hf]; rfl) (by rw [show n * 4 + 3 = n * 4 + 2 + 1 from rfl, cell_same (h.cu n hn)]; rfl)
  have e : s.burn n = { s with up := fun i => if i = n then s.up n else s.up i, fuse := fun i => if i = n then some k else s.fuse i } := by
    unfold St.burn
    rw [hf]
    have : (fun i => if i = n then s.up n else s.up i) = s.up := by funext i; split <;> simp_all
    rw [this]; rfl
  rw [e]; exact this
theorem burn_none (s : St) (n : Nat) (h : s.fuse n = none) : s.burn n = s := by
  unfold St.burn
  have : (fun i => if i = n then (s.fuse n).map (· - 1) else s.fuse i) = s.fuse := by funext i; rw [h]; split <;> simp_all
  rw [this]

set_option maxRecDepth 100000 in
set_option maxHeartbeats 1000000 in
theorem nodesBurn_any {w : World} {L : Lay} {s : St} (h : Rep w L s) (hf : Wf s) (n : Nat) (hn : n ≤ s.parts) :
    Calls Tryz.prog 164 #[.pointer (some ⟨L.nb, 0, none⟩), .int .i64 n] w (Acts L w n (burnt s n)) := by
  have c0 := h.c0
  have cb := h.cb n hn
  have cu := h.cu n hn
  have f3 := h.fa (n * 4 + 3)
  have hb := hf.fb n
  have hp5 := hf.p5
  cases hf : s.fuse n with
  | none =>
    rw [hf] at cb cu
    have HF := hide hf
    clear hf hb
    simp only [Option.isSome_none] at cb
    go_enter Tryz.func164, Tryz.ntmps164
    go_wp2
    first | go_end0 | refine bodyPost_ret (results_none rfl _ _ _) rfl ?_
    refine Acts.ret' (s := s) ?_ (Leaves.same h (Below.refl _ _))
    unfold burnt
    rw [if_neg (by rw [unhide HF]; simp), burn_none s n (unhide HF)]
  | some k =>
    cases k with
    | zero =>
      rw [hf] at cb cu
      have HF := hide hf
      clear hf hb
      simp only [Option.isSome_some, Option.getD_some] at cb cu
      have hcr := hide (nodesCrash_any h hp5 n hn)
      go_enter Tryz.func164, Tryz.ntmps164
      go_wp2_with (go_at_call 54; refine (unhide hcr).mono ?_; rintro e w1 ⟨rfl, hl⟩)
      refine ⟨rfl, Acts.pan' ?_ hl⟩
      unfold burnt
      rw [if_pos (unhide HF)]
    | succ k =>
      have hk := hb _ hf
      rw [hf] at cb cu
      have HF := hide hf
      clear hf hb
      simp only [Option.isSome_some, Option.getD_some] at cb cu
      go_enter Tryz.func164, Tryz.ntmps164
      go_wp2
      first | go_end0 | refine bodyPost_ret (results_none rfl _ _ _) rfl ?_
      refine Acts.ret' (s := s.burn n) ?_ (h.burnt n k hn (unhide HF))
      unfold burnt
      rw [if_neg (by rw [unhide HF]; simp)]

theorem Wf.same {s s' : St} (h : Wf s) (e1 : s'.parts = s.parts) (e2 : s'.deals = s.deals) (e3 : s'.log = s.log) (hf : ∀ n k, s'.fuse n = some k → k < 9223372036854775808) : Wf s' :=
  ⟨e1 ▸ h.p1, e1 ▸ h.p5, e2 ▸ h.d12, e2 ▸ h.w6, by rw [e1, e3]; exact h.ll, by rw [e1, e2, e3]; exact h.lt, hf⟩
theorem Wf.burn {s : St} (h : Wf s) (n : Nat) : Wf (s.burn n) := by
  refine h.same rfl rfl rfl ?_
  intro i k hk
  simp only [St.burn] at hk
  split at hk
  · cases hf : s.fuse n with
    | none => rw [hf] at hk; cases hk
    | some j => rw [hf] at hk; simp at hk; have := h.fb n j hf; omega
  · exact h.fb i k hk
theorem Wf.down {s : St} (h : Wf s) (n : Nat) : Wf (s.down n) := by
  refine h.same rfl rfl rfl ?_
  intro i k hk
  simp only [St.down] at hk
  split at hk
  · cases hk
  · exact h.fb i k hk
theorem Wf.send {s : St} (h : Wf s) (m : Msg) : Wf (s.send m) := h.same rfl rfl rfl h.fb
theorem Wf.note {s : St} (h : Wf s) (t m : Nat) : Wf (s.note t m) := h.same rfl rfl rfl h.fb
theorem burnt_true {s : St} {n : Nat} (h : (burnt s n).2 = true) : (burnt s n).1 = s.burn n := by
  unfold burnt at h ⊢
  split at h
  · cases h
  · rename_i hn; rw [if_neg hn]
theorem does_false {s : St} {n : Nat} {a : Deed} {l : List Deed} (h : (burnt s n).2 = false) : s.does n (a :: l) = ((burnt s n).1, false) := by
  rw [does_cons, andThen, h]
  simp only [Bool.false_eq_true, if_false]
  rw [← h]
theorem does_true {s : St} {n : Nat} {a : Deed} {l : List Deed} (h : (burnt s n).2 = true) : s.does n (a :: l) = ((s.burn n).act n a).does n l := by
  rw [does_cons, andThen, h, burnt_true h]; rfl

set_option maxRecDepth 100000 in
set_option maxHeartbeats 1000000 in
theorem nodesWrite_any {w : World} {L : Lay} {s : St} (h : Rep w L s) (hf : Wf s) (node t st : Nat) (hn : node ≤ s.parts) :
    Calls Tryz.prog 155 #[.pointer (some ⟨L.nb, 0, none⟩), .int .i64 node, .int .i64 t, .int .i64 st] w (Acts L w node (s.does node [.wrt t st])) := by
  have hbu := hide (nodesBurn_any h hf node hn)
  obtain ⟨i0, hi, hz0, hz1, hz2⟩ := info_parts Tryz.infoRec
  go_enter Tryz.func155, Tryz.ntmps155
  go_wp2_with fail
  refine (unhide hbu).mono ?_
  intro e w1 ha
  rcases ha.cases with ⟨hr, rfl, hl⟩ | ⟨hr, rfl, hl⟩
  · rw [burnt_true (unhide hr)] at hl
    obtain ⟨L1, e1, e2, hR, hE⟩ := hl
    have hn' : node ≤ (s.burn node).parts := hn
    have hd := does_true (a := .wrt t st) (l := []) (unhide hr)
    have hf' := hf.burn node
    generalize s.burn node = s1 at *
    have HDO := hide hd
    clear hd h hf hn ha hr
    have c0 := hR.c0
    rw [e2] at c0
    have ca := hR.ca node hn'
    have hab := World.block_lt_of_cell? w1 _ ca
    have hp5 := hf'.p5
    have hll := hf'.ll node hn'
    have ho := hR.ol node hn'
    have HL := hide (by have := ho.len; rw [recCells_length] at this; omega : (L1.lv node).n = (s1.log node).length)
    have hn6 : (L1.lv node).n ≤ 1000000 := by rw [unhide HL]; exact hll
    have E := hide (And.intro e1 e2)
    clear hll e1 e2
    go_wp2_with (at_builtin; go_must (refine wpList_append_one rfl _ _ 33 rfl 43 i0 (.agg #[.int .i64 0, .int .i64 0]) 2 16 Tryz.underlying33 hi hz0 hz1 hz2 rfl (by decide) (L1.lv node).a (L1.lv node).n (L1.lv node).cap (recCells (s1.log node)) rfl (World.ownsRow.alloc ho _) ⟨w1.heap.size, 0, none⟩ 1 [.int .i64 t, .int .i64 st] rfl rfl (new_cells _ [.int .i64 t, .int .i64 st] _) (fun x hx => by simp at hx; rcases hx with rfl | rfl <;> rfl) (by unfold maxLen; omega) (by omega) ?_); intro k cap' w3 g1 g2 g3; have hu := Upd.of_append hR (hR.tl node hn') (below_alloc _ _) g1 g2 g3; have ca3 := (World.cell?_of_block (a := ⟨L1.ab, node * 4, none⟩) (hu.keep _ _ hR.ta (by simp))).trans ca; have fa3 := (World.frozen?_of_block (a := ⟨L1.ab, node * 4, none⟩) (hu.keep _ _ hR.ta (by simp))).trans (hR.fa (node * 4)); clear g2 g3)
    go_end0
    refine Acts.ret' (unhide HDO) (Leaves.trans (unhide E).1 (unhide E).2 hE (hR.logged node t st hn' hu ?_))
    rw [recCells_append]
    exact g1
  · exact ⟨rfl, Acts.pan' (does_false (unhide hr)) hl⟩

end Go.Proofs.YtekbjlhbjcikdaaGreat
