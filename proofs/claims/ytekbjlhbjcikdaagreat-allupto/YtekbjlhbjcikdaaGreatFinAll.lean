/-
  Proved: at this commit accordlaw.All returns true for every script of steps (of bulk at most 1,048,576), and leaves its argument as it was: at every step of every kind, the iterator's too, the program answers as the reference does. Conditions: none beyond the given statement's own.
-/
import Derived.Test.YtekbjlhbjcikdaaGreatA2
import Derived.Test.YtekbjlhbjcikdaaGreatMLF
namespace Go.Proofs.YtekbjlhbjcikdaaGreat
open Go.ChangeShapes Go.WideShapes Go.ChangeAt Go.RowKit Go.Deep Go.Joins Acc

set_option maxRecDepth 10000 in
theorem script16_of {H : Type} {enc : TypeId × Value → H} {W : World} {sp : Nat → Bool} {a : Option Addr} {len cap : Nat} {d : DataW H} {p : List MemPlace} (h : DataW.Trod enc Tryz.prog W 0 sp true 22 (.slice a len cap) d p) (hb : Rows.uptoBulk d ≤ 1048576) :
    len ≤ 1100000 ∧ len ≤ cap ∧ Script16 W a len := by
  obtain ⟨fuel, hf⟩ := h
  rcases open_slice Tryz.underlying22 hf with ⟨hcs, _⟩ | ⟨x, l, c, m, n, D, Pl, hcs, _, hl, hm, hmm, hx, hcell⟩
  · simp [Value.cells] at hcs
    obtain ⟨rfl, rfl, rfl⟩ := hcs
    exact ⟨by omega, Nat.le_refl _, .inl rfl⟩
  · simp [Value.cells] at hcs
    obtain ⟨rfl, rfl, rfl⟩ := hcs
    simp only [Prod.mk.injEq] at hx
    obtain ⟨rfl, _⟩ := hx
    have hball := bulk_elems ((List.range len).map D) ((List.range (m - len)).map fun j => D (len + j))
    have hlb : len ≤ 1048576 := by
      have h2 := bulk_length ((List.range len).map D)
      simp only [List.length_map, List.length_range] at h2
      omega
    refine ⟨by omega, hl, ?_⟩
    by_cases h0 : len = 0
    · exact .inl h0
    · have hlm : len ≤ m := by rw [hmm]; split <;> omega
      obtain ⟨g, o, spot⟩ := x
      rw [Tryz.cellsOp] at hcell
      have hone : ∀ i, i < len → ∃ K V A B wa wn wc, W.cell? ((⟨g, o, spot⟩ : Addr).add (i * 5)) = some (.int .i64 K) ∧ W.cell? (((⟨g, o, spot⟩ : Addr).add (i * 5)).add 1) = some (.int .i64 V) ∧ W.cell? (((⟨g, o, spot⟩ : Addr).add (i * 5)).add 2) = some (.int .i64 A) ∧ W.cell? (((⟨g, o, spot⟩ : Addr).add (i * 5)).add 3) = some (.int .i64 B) ∧ W.cell? (((⟨g, o, spot⟩ : Addr).add (i * 5)).add 4) = some (.slice wa wn wc) ∧ inR V ∧ inR B ∧ inR A ∧ WrsAt W wa wn wc := by
        intro i hi
        obtain ⟨cs', h1, h2⟩ := hcell i (by omega)
        obtain ⟨_, hlen, hat⟩ := World.cells?_some h1
        obtain ⟨y0, y1, y2, y3, y4, n', hy, _, t0, t1, t2, t3, t4⟩ := trod_struct5 Tryz.underlying72 h2
        obtain ⟨c0, c1, c2, c3, c4, rfl⟩ := list_5 hlen
        simp [Tryz.cellsInt1, Tryz.cellsWrites] at t0 t1 t2 t3 t4
        obtain ⟨K, e0, _, w0⟩ := DataW.trod_int Tryz.underlying3 t0
        obtain ⟨V, e1, _, w1⟩ := DataW.trod_int Tryz.underlying3 t1
        obtain ⟨A, e2, _, w2⟩ := DataW.trod_int Tryz.underlying3 t2
        obtain ⟨B, e3, _, w3⟩ := DataW.trod_int Tryz.underlying3 t3
        have hbi : Rows.uptoBulk (D i) ≤ 1048576 := by
          have := bulk_part (d := D i) (l := (List.range len).map D) (List.mem_map.2 ⟨i, List.mem_range.2 hi, rfl⟩)
          omega
        have hb4 : Rows.uptoBulk y4.1 ≤ 1048576 := by
          simp only at hy
          rw [hy] at hbi
          simp only [Rows.uptoBulk, Rows.uptoBulkAll] at hbi
          omega
        obtain ⟨wa, wn, wc, e4, hwr⟩ := wrsAt_of t4 hb4
        simp at e0 e1 e2 e3
        subst e0 e1 e2 e3 e4
        have a0 := hat 0 (by omega)
        have a1 := hat 1 (by omega)
        have a2 := hat 2 (by omega)
        have a3 := hat 3 (by omega)
        have a4 := hat 4 (by omega)
        simp at a0 a1 a2 a3 a4
        exact ⟨K, V, A, B, wa, wn, wc, by simpa [Addr.add] using a0, a1, a2, a3, a4, bounds_i64 w1, bounds_i64 w3, bounds_i64 w2, hwr⟩
      obtain ⟨K, _, _, _, _, _, _, c0, _⟩ := hone 0 (by omega)
      have hspot : spot = none := by simpa [Addr.add] using World.cell?_spot c0
      subst hspot
      refine .inr ⟨g, o, rfl, ?_, ?_⟩
      · have c0' : W.cell? ⟨g, o, none⟩ = some (.int .i64 K) := by simpa [Addr.add] using c0
        exact World.block_lt_of_cell? W _ c0'
      · intro i hi
        obtain ⟨K, V, A, B, wa, wn, wc, c0, c1, c2, c3, c4, r⟩ := hone i hi
        simp only [addr_add_at] at c0 c1 c2 c3 c4
        exact ⟨K, V, A, B, wa, wn, wc, c0, c1, c2, c3, c4, r⟩


set_option maxRecDepth 100000 in
theorem allLaw_any (w : World) (a : Option Addr) (n cap : Nat) (hn : n ≤ 1100000) (hcap : n ≤ cap) (hs : Script16 w a n) :
    Calls Tryz.prog 12 #[.slice a n cap] w fun e w' => e = .returned (.bool true) ∧ Below w.heap.size w w' := by
  have H := hide (played16_any w a n cap hn hcap hs 16 (by omega))
  go_enter Tryz.func12, Tryz.ntmps12
  go_wp2_with fail
  refine (unhide H).mono ?_
  rintro e w1 ⟨rfl, hb⟩
  go_wp2_with fail
  go_ret
  exact ⟨rfl, hb⟩

set_option maxRecDepth 100000 in
theorem allLifted (os : Os) (started : os.Started) (H : Type) (enc : TypeId × Value → H) (F : Stop.Interp) :
    ReturnsInHanded {} Tryz.checked os 12 .any ((Rows.OpenSpec.upto Rows.allSpec).pre6 enc Tryz.prog Tryz.f12 Rows.allUptoRow.domain false) (((Rows.OpenSpec.upto Rows.allSpec).at F).post enc Tryz.prog Tryz.f12 false true false false) := by
  refine returnsInHanded_of_cond (C := Tryz.checked) (s := Rows.OpenSpec.upto Rows.allSpec) (k := Rows.uptoSmall) rfl lawOwn started (by kernel_rfl) Tryz.func12
    (OpenSpec.witness (enc := enc) (C := Tryz.checked) (s := Rows.OpenSpec.upto Rows.allSpec) (k := Rows.uptoSmall) rfl false ⟨#[], #[.slice none 0 0], []⟩ 8 (by kernel_rfl) (by kernel_rfl) (by kernel_rfl)
      (x := ([.nil], [], [])) (by kernel_rfl) rfl (by kernel_rfl)) ?_
  intro W base args ds gs before hval0 hW _ hk _
  have hval : ∀ (j : Nat) t v, Tryz.f12.params[j]? = some t → args[j]? = some v → Value.okWide Tryz.prog W .any base t v := hval0
  have hW' := hW
  obtain ⟨p, q, hA0, hV, rfl, hfz, hnd⟩ := hW
  have hA : DataW.TrodAll enc Tryz.prog W 0 (fun _ => true) true Tryz.f12.params.toList args.toList ds p := hA0
  rw [Tryz.params12] at hA hval
  obtain ⟨v0, vs0, d0, ds0, p0, q0, hargs, rfl, rfl, h0, r0⟩ := trodAll_cons hA
  obtain ⟨rfl, rfl, rfl⟩ := trodAll_nil r0
  obtain rfl : args = #[v0] := by cases args; simp_all
  obtain ⟨rfl, rfl⟩ := trodVars_none hV
  obtain ⟨a0, len0, cap0, rfl⟩ := okWide_slice Tryz.underlying22 (hval 0 22 v0 rfl rfl)
  have k0 := h0
  have lt0 : ∀ x ∈ p0, x.block < W.heap.size := by obtain ⟨m, hm⟩ := k0; exact DataW.trod_lt m _ _ _ hm
  have hbk : Rows.uptoBulk d0 ≤ 1048576 := by
    have hh : Rows.uptoBulkAll ([d0] ++ []) ≤ 1048576 := of_decide_eq_true hk
    simp only [List.append_nil, Rows.uptoBulkAll] at hh
    omega
  obtain ⟨m0, n0, w0⟩ := script16_of h0 hbk
  clear hA0 hval0
  refine (allLaw_any W a0 len0 cap0 m0 n0 w0).mono fun e W' ⟨he, bel⟩ => ?_
  subst he
  exact ⟨_, rfl, _, _, _, [], _, [], hW', trodAll_mk1 (shut_bool Tryz.underlying4 _), (trodAll_cons_mk (Below.trod lawLaidOut (by kernel_rfl) (of_decide_eq_true (by kernel_rfl)) k0 bel lt0) trodAll_mk0), rfl, bel.frame _, fun h => by cases h⟩

theorem all_holds : Rows.AllUptoSaid :=
  OpenClaim.holds_of_cond 12 Tryz.f12 rfl rfl rfl rfl rfl rfl rfl ⟨rfl, rfl, rfl, rfl, rfl⟩ rfl rfl rfl rfl rfl (by kernel_rfl) Tryz.func12 (by kernel_rfl)
    (of_decide_eq_true (by kernel_rfl)) (by unfold Func.isWrapper; first | (rw [if_pos (by decide +kernel)]; kernel_rfl) | (rw [if_neg (by decide +kernel)]; exact ⟨rfl, rfl⟩))
    (fun os started H enc _ F => allLifted os started H enc F)
#print axioms all_holds
end Go.Proofs.YtekbjlhbjcikdaaGreat
