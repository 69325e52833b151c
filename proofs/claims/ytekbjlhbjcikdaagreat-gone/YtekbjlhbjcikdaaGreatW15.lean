/-
  Walks of Up, Deliver, Drop, Double.
-/
import Derived.Test.YtekbjlhbjcikdaaGreatW14
namespace Go.Proofs.YtekbjlhbjcikdaaGreat
open Go.RowKit Acc

theorem _root_.Acc.Inv.wf {s : St} (h : Inv s) : Wf s := by
  refine ⟨h.p1, h.p5, h.d12, ?_, ?_, ?_, h.fb⟩
  · intro t
    rw [List.getD_eq_getElem?_getD]
    cases hd : s.deals[t]? with
    | none => simp
    | some ws => exact (h.dl ws (List.mem_of_getElem? hd)).2
  · intro n _; have := h.len n; omega
  · intro n x _ hx; exact h.logs n x hx
theorem _root_.Acc.Inv.sm {s : St} (h : Inv s) : Sm s := by intro n _; have := h.len n; omega
theorem _root_.Acc.Inv.mok {s : St} (h : Inv s) {m : Msg} (hm : MsgOk s m) : MOk s m ∧ (1 ≤ m.kind ∧ m.kind ≤ 6) ∧ (m.kind = 2 ∨ m.kind = 3 → m.to = 0) := by
  obtain ⟨a, b⟩ := hm
  have hr := h.rng _ a
  have z : ∀ x, (x = 0 ∨ s.mem m.trans x) → x ≤ s.parts := by
    rintro x (rfl | hx)
    · omega
    · exact h.mem_le hx
  rcases b with b | b | b | b | b | b
  · exact ⟨⟨z _ (.inr b.2.2), z _ (.inl b.2.1), hr.1, hr.2⟩, by omega, by omega⟩
  · exact ⟨⟨z _ (.inl b.2.1), z _ (.inr b.2.2.1), hr.1, hr.2⟩, by omega, by omega⟩
  · exact ⟨⟨z _ (.inl b.2.1), z _ (.inr b.2.2.1), hr.1, hr.2⟩, by omega, by omega⟩
  · exact ⟨⟨z _ (.inr b.2.1), z _ b.2.2.1, hr.1, hr.2⟩, by omega, by omega⟩
  · exact ⟨⟨z _ (.inr b.2.1), z _ b.2.2.1, hr.1, hr.2⟩, by omega, by omega⟩
  · exact ⟨⟨z _ b.2.2, z _ (.inr b.2.1), hr.1, hr.2⟩, by omega, by omega⟩

set_option maxRecDepth 100000 in
set_option maxHeartbeats 1000000 in
theorem nodesUp_any {w : World} {L : Lay} {s : St} (h : Rep w L s) (_hp5 : s.parts ≤ 5) (n : Nat) (hn : n ≤ s.parts) :
    Calls Tryz.prog 52 #[.pointer (some ⟨L.nb, 0, none⟩), .int .i64 n] w fun e w' => e = .returned (.bool (s.up n)) ∧ w' = w := by
  have c0 := h.c0
  have cd := h.cd n hn
  go_enter Tryz.func52, Tryz.ntmps52
  go_wp2
  go_ret
  exact ⟨by simp, rfl⟩

set_option maxRecDepth 100000 in
set_option maxHeartbeats 1000000 in
theorem nodesDeliver_any {w : World} {L : Lay} {s : St} (h : Rep w L s) (hi : Inv s) (i : Nat) (m : Msg) (hx : s.fly[i]? = some m) :
    Calls Tryz.prog 64 #[.pointer (some ⟨L.nb, 0, none⟩), .int .i64 i] w (Acts L w m.to (s.come i m)) := by
  obtain ⟨hm, hk, h0⟩ := hi.mok (hi.msg m (List.mem_of_getElem? hx))
  have ht := hide (mailTake_any h hi.fl i m hx)
  have HI := hi.drop i
  have hd : s.come i m = if s.up m.to then (s.drop i).recv m else (s.drop i, true) := rfl
  have HD := hide hd
  have HK := hide (And.intro hk h0)
  clear hd hx hk h0
  go_enter Tryz.func64, Tryz.ntmps64
  go_wp2_with fail
  refine (unhide ht).mono ?_
  rintro e w1 ⟨rfl, L1, e1, e2, hR1, hE1⟩
  have hR1 : Rep w1 L1 (s.drop i) := hR1
  have E := hide (And.intro e1 e2)
  have hbb := below_alloc w1 (Obj.cells #[.int .i64 m.kind, .int .i64 m.frm, .int .i64 m.to, .int .i64 m.trans] 109)
  have hR2 := hR1.below hbb
  have hup := nodesUp_any hR2 HI.p5 m.to hm.to
  rw [e2] at hup
  have HU := hide hup
  have hr := nodesReceive_any hR2 HI.wf HI.sm m ⟨hm.to, hm.frm, hm.t1, hm.t2⟩ (unhide HK).1 (unhide HK).2
  rw [e2] at hr
  have HR := hide hr
  clear hr hup e1 e2
  go_wp2_with fail
  refine (unhide HU).mono ?_
  rintro e w2 ⟨rfl, rfl⟩
  cases hu : s.up m.to with
  | true =>
    have hu' : (s.drop i).up m.to = true := hu
    have hq : Hid (s.come i m = (s.drop i).recv m) := by show _ = _; rw [unhide HD, if_pos hu]
    rw [hu']
    clear hu hu'
    go_wp2_with fail
    refine (unhide HR).mono ?_
    intro e w3 ha
    have ha2 : Acts L w m.to (s.come i m) e w3 := by rw [unhide hq]; exact Acts.trans (unhide E).1 (unhide E).2 hE1 (ha.below hbb)
    rcases ha.cases with ⟨hr, rfl, hl⟩ | ⟨hr, rfl, hl⟩
    · go_wp2
      go_end0
      exact ha2
    · exact ⟨rfl, ha2⟩
  | false =>
    have hu' : (s.drop i).up m.to = false := hu
    have hq : Hid (s.come i m = (s.drop i, true)) := by show _ = _; rw [unhide HD, if_neg (by simp [hu])]
    rw [hu']
    clear hu hu'
    go_wp2
    go_end0
    exact Acts.ret' (unhide hq) (Leaves.trans (unhide E).1 (unhide E).2 hE1 (Leaves.same hR1 hbb))

set_option maxRecDepth 100000 in
set_option maxHeartbeats 1000000 in
theorem nodesDrop_any {w : World} {L : Lay} {s : St} (h : Rep w L s) (hfl : s.fly.length ≤ 60) (i : Nat) (m : Msg) (hx : s.fly[i]? = some m) :
    Calls Tryz.prog 61 #[.pointer (some ⟨L.nb, 0, none⟩), .int .i64 i] w (Acts L w 0 (s.drop i, true)) := by
  have ht := hide (mailTake_any h hfl i m hx)
  clear hx
  go_enter Tryz.func61, Tryz.ntmps61
  go_wp2_with fail
  refine (unhide ht).mono ?_
  rintro e w1 ⟨rfl, hl⟩
  go_wp2
  go_end0
  exact Acts.ret' rfl hl

set_option maxRecDepth 100000 in
set_option maxHeartbeats 1000000 in
theorem mailDouble_any {w : World} {L : Lay} {s : St} (h : Rep w L s) (hfl : s.fly.length ≤ 60) (i : Nat) (m : Msg) (hx : s.fly[i]? = some m) :
    Calls Tryz.prog 156 #[.pointer (some ⟨L.nb, 80, none⟩), .int .i64 i] w fun e w' => e = .returned (.tuple #[]) ∧ Leaves L w (s.send m) w' := by
  have hil : i < s.fly.length := (List.getElem?_eq_some_iff.1 hx).1
  have HD := hide (by have := h.om.len; rw [msgCells_length] at this; omega : L.fv.n = s.fly.length)
  have hin : i < L.fv.n := by rw [unhide HD]; exact hil
  have hdn : L.fv.n ≤ 60 := by rw [unhide HD]; exact hfl
  have cf := h.cf
  have hnb := World.block_lt_of_cell? w _ cf
  obtain ⟨g, ha, hcap, hfz, hc⟩ := h.om.at (by omega)
  rw [ha] at cf
  obtain ⟨m0, m1, m2, m3⟩ := msgCells_get s.fly i m hx
  have m0 := hc _ _ m0
  have m1 := hc _ _ m1
  have m2 := hc _ _ m2
  have m3 := hc _ _ m3
  have hgl := World.block_lt_of_cell? w _ m0
  rw [show 4 * i = i * 4 from by omega] at m0 m1 m2 m3
  have hms := fun (w1 : World) (hb : Below w.heap.size w w1) => mailSend_any (h.below hb) m
  have HMS := hide hms
  clear hms hc hx hil hfl ha
  go_enter Tryz.func156, Tryz.ntmps156
  go_wp2_with fail
  refine (unhide HMS w (Below.refl _ _)).mono ?_
  rintro e w1 ⟨rfl, hl⟩
  go_wp2
  go_end0
  exact ⟨rfl, hl⟩

set_option maxRecDepth 100000 in
set_option maxHeartbeats 1000000 in
theorem nodesDouble_any {w : World} {L : Lay} {s : St} (h : Rep w L s) (hfl : s.fly.length ≤ 60) (i : Nat) (m : Msg) (hx : s.fly[i]? = some m) :
    Calls Tryz.prog 120 #[.pointer (some ⟨L.nb, 0, none⟩), .int .i64 i] w (Acts L w 0 (s.send m, true)) := by
  have ht := hide (mailDouble_any h hfl i m hx)
  clear hx
  go_enter Tryz.func120, Tryz.ntmps120
  go_wp2_with fail
  refine (unhide ht).mono ?_
  rintro e w1 ⟨rfl, hl⟩
  go_wp2
  go_end0
  exact Acts.ret' rfl hl
end Go.Proofs.YtekbjlhbjcikdaaGreat
