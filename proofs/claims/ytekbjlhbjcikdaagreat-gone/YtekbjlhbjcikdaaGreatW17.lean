/-
  Walks of Tick, Recover, Fuse, Log.
-/
import Derived.Test.YtekbjlhbjcikdaaGreatW16
namespace Go.Proofs.YtekbjlhbjcikdaaGreat
open Go.RowKit Acc

set_option maxRecDepth 100000 in
set_option maxHeartbeats 1000000 in
theorem nodesTick_any {w : World} {L : Lay} {s : St} (h : Rep w L s) (hk : Ok s) (p : Nat) (hp : p ≤ s.parts) :
    Calls Tryz.prog 56 #[.pointer (some ⟨L.nb, 0, none⟩), .int .i64 p] w (Acts L w p (s.tick p)) := by
  have h12 := hk.inv.d12
  by_cases h0 : p = 0
  · subst h0
    have hga := hide (nodesGiveUpAll_any h hk)
    go_enter Tryz.func56, Tryz.ntmps56
    go_wp2_with fail
    refine (unhide hga).mono ?_
    intro e w1 ha
    have ha2 : Acts L w 0 (s.tick 0) e w1 := ha
    rcases ha.cases with ⟨hr, rfl, hl⟩ | ⟨hr, rfl, hl⟩
    · go_wp2
      first | go_end0 | refine bodyPost_ret (results_none rfl _ _ _) rfl ?_
      exact ha2
    · exact ⟨rfl, ha2⟩
  have q0 : ((p : Int) == 0) = false := by rw [beq_eq_false_iff_ne]; omega
  have ht : s.tick p = s.askFrom p s.deals.length 1 := by unfold St.tick; rw [if_neg h0]
  have HT := hide ht
  clear ht h0
  go_enter Tryz.func56, Tryz.ntmps56
  go_wp2
  go_loopw [4] (fun i wr => ∃ j : Nat, j ≤ s.deals.length ∧ i = .int .i64 ((j : Int) + 1) ∧ ∃ sj, Hid (s.tick p = sj.askFrom p (s.deals.length - j) (j + 1)) ∧ Ok sj ∧ Hid (sj.deals = s.deals ∧ sj.parts = s.parts) ∧ Leaves L w sj wr) (fun i _ => (13 - intOf i).toNat)
  case atStart => exact ⟨0, Nat.zero_le _, rfl, s, hide (unhide HT), hk, hide ⟨rfl, rfl⟩, Leaves.same h (Below.refl _ _)⟩
  case round =>
    obtain ⟨j, hj, rfl, sj, hg, hkj, hdj, L1, e1, e2, hR, hE⟩ := hrel
    have c1 := hR.c1
    rw [e2] at c1
    have HD := hide (by have := hR.od.len; rw [slCells_length] at this; rw [← (unhide hdj).1]; omega : L1.dv.n = s.deals.length)
    have hdn : L1.dv.n ≤ 12 := by rw [unhide HD]; exact h12
    have hpj : p ≤ sj.parts := by rw [(unhide hdj).2]; exact hp
    by_cases hlt : j < s.deals.length
    · have hlt' : j < L1.dv.n := by rw [unhide HD]; exact hlt
      have hst : s.tick p = andThen (if sj.state p (j + 1) = 2 then sj.does p (sj.asks p (j + 1)) else (sj, true)) fun s' => s'.askFrom p (s.deals.length - (j + 1)) (j + 1 + 1) := by
        rw [unhide hg, show s.deals.length - j = (s.deals.length - (j + 1)) + 1 from by omega]; rfl
      have HS := hide hst
      have hsa := nodesState_any hR p (j + 1) hpj hkj.inv.p5 (hkj.inv.wf.ll p hpj)
      rw [e2] at hsa
      have HSA := hide hsa
      have hgu := nodesAskAround_any hR hkj.inv.wf p (j + 1) hpj (by omega) (by rw [(unhide hdj).1]; omega)
      rw [e2] at hgu
      have HGU := hide hgu
      have E := hide (And.intro e1 e2)
      have HLT := hide hlt
      clear hst hsa hgu e1 e2 hg hlt hj
      go_wp2_with fail
      rw [show ((j : Int) + 1) = ((j + 1 : Nat) : Int) from by omega]
      refine (unhide HSA).mono ?_
      rintro e w1 ⟨rfl, rfl⟩
      by_cases h1 : sj.state p (j + 1) = 2
      · have q1 := eqT h1
        have HQ := hide h1
        clear h1
        go_wp2_with fail
        rw [show ((j : Int) + 1) = ((j + 1 : Nat) : Int) from by omega]
        refine (unhide HGU).mono ?_
        intro e w3 ha
        have hko : Ok (sj.does p (sj.asks p (j + 1))).1 := hkj.of (hkj.inv.asks p (j + 1) ((hkj.inv.h2).1 (unhide HQ))) (does_deals _ _ _).1
        have hdd : (sj.does p (sj.asks p (j + 1))).1.deals = s.deals ∧ (sj.does p (sj.asks p (j + 1))).1.parts = s.parts := ⟨(does_deals _ _ _).1.trans (unhide hdj).1, (does_deals _ _ _).2.trans (unhide hdj).2⟩
        have hs2 := unhide HS
        rw [if_pos (unhide HQ)] at hs2
        rcases ha.cases with ⟨hr, rfl, hl⟩ | ⟨hr, rfl, hl⟩
        · rw [andThen_true (unhide hr)] at hs2
          have HS2 := hide hs2
          have HDD := hide hdd
          clear hs2 hdd
          go_wp2
          have := unhide HLT
          exact ⟨⟨j + 1, by omega, by go_num, _, HS2, hko, HDD, Leaves.trans (unhide E).1 (unhide E).2 hE hl⟩, by simp [intOf]; omega⟩
        · rw [andThen_false (unhide hr)] at hs2
          have HS2 := hide hs2
          clear hs2 hdd
          go_wp2
          exact ⟨rfl, Acts.pan' (unhide HS2) (Leaves.trans (unhide E).1 (unhide E).2 hE hl)⟩
      · have q1 := eqF h1
        have hs2 := unhide HS
        rw [if_neg h1, andThen_true rfl] at hs2
        have HS2 := hide hs2
        clear h1 hs2
        go_wp2
        have := unhide HLT
        exact ⟨⟨j + 1, by omega, by go_num, sj, HS2, hkj, hdj, L1, (unhide E).1, (unhide E).2, hR, hE⟩, by simp [intOf]; omega⟩
    · have hlt' : ¬ j < L1.dv.n := by rw [unhide HD]; exact hlt
      have hfin : s.tick p = (sj, true) := by rw [unhide hg, show s.deals.length - j = 0 from by omega]; rfl
      have HF := hide hfin
      have hl : Leaves L w sj wr := ⟨L1, e1, e2, hR, hE⟩
      clear hfin e1 e2 hg
      go_wp2
      go_end0
      exact Acts.ret' (unhide HF) hl

theorem Rep.risen {w : World} {L : Lay} {s : St} (h : Rep w L s) (n : Nat) (hn : n ≤ s.parts) : Leaves L w (s.rise n) (w.setCell ⟨L.ab, n * 4 + 1, none⟩ (.bool false)) := by
  refine ⟨L, rfl, rfl, ?_, ext_ab h rfl rfl rfl (by simp [World.setCell]) (fun b h1 _ => block_setCell h1)⟩
  have := h.fate (w' := w.setCell ⟨L.ab, n * 4 + 1, none⟩ (.bool false)) n true (s.fuse n) (by simp [World.setCell]) (fun b hb => block_setCell hb) (fun j h1 _ _ => cell_other (by omega)) (fun j => by simpa using h.fa j)
    (by rw [cell_same (h.cd n hn)]; rfl) ((cell_other (by omega)).trans (h.cb n hn)) ((cell_other (by omega)).trans (h.cu n hn))
  have e : s.rise n = { s with up := fun i => if i = n then true else s.up i, fuse := fun i => if i = n then s.fuse n else s.fuse i } := by
    unfold St.rise
    have : (fun i => if i = n then s.fuse n else s.fuse i) = s.fuse := by funext i; split <;> simp_all
    rw [this]
  rw [e]; exact this

set_option maxRecDepth 100000 in
set_option maxHeartbeats 1000000 in
theorem nodesRecover_any {w : World} {L : Lay} {s : St} (h : Rep w L s) (hk : Ok s) (n : Nat) (hn : n ≤ s.parts) :
    Calls Tryz.prog 55 #[.pointer (some ⟨L.nb, 0, none⟩), .int .i64 n] w (Acts L w n (s.rcv n)) := by
  have c0 := h.c0
  have cd := h.cd n hn
  have f1 := h.fa (n * 4 + 1)
  have hp5 := hk.inv.p5
  have hl := hide (h.risen n hn)
  by_cases h0 : n = 0
  · have q0 : ((n : Int) == 0) = true := by rw [h0]; rfl
    have hr : s.rcv n = (s.rise n).giveAll := by unfold St.rcv; rw [if_pos h0]
    have HR := hide hr
    have H0 := hide h0
    clear hr h0
    obtain ⟨L1, e1, e2, hR1, hE1⟩ := unhide hl
    have hga := nodesGiveUpAll_any hR1 (hk.rise n)
    rw [e2] at hga
    have HG := hide hga
    have E := hide (And.intro e1 e2)
    clear hga e1 e2
    go_enter Tryz.func55, Tryz.ntmps55
    go_wp2_with fail
    refine (unhide HG).mono ?_
    intro e w1 ha
    have ha2 : Acts L w n (s.rcv n) e w1 := by rw [unhide HR, unhide H0]; rw [unhide H0] at ha hE1; exact Acts.trans (unhide E).1 (unhide E).2 hE1 ha
    have H0 := unhide H0
    subst H0
    rcases ha.cases with ⟨hr, rfl, hl⟩ | ⟨hr, rfl, hl⟩
    · go_wp2
      go_end0
      exact ha2
    · exact ⟨rfl, ha2⟩
  · have q0 : ((n : Int) == 0) = false := by rw [beq_eq_false_iff_ne]; omega
    have hr : s.rcv n = (s.rise n, true) := by unfold St.rcv; rw [if_neg h0]
    have HR := hide hr
    clear hr h0
    go_enter Tryz.func55, Tryz.ntmps55
    go_wp2
    go_end0
    exact Acts.ret' (unhide HR) (unhide hl)

theorem Rep.fuseLaid {w : World} {L : Lay} {s : St} (h : Rep w L s) (n k : Nat) (hn : n ≤ s.parts) : Leaves L w (s.fused n k) ((w.setCell ⟨L.ab, n * 4 + 2, none⟩ (.bool true)).setCell ⟨L.ab, n * 4 + 2 + 1, none⟩ (.int .i64 k)) := by
  refine ⟨L, rfl, rfl, ?_, ext_ab h rfl rfl rfl (by simp [World.setCell]) (fun b h1 _ => by rw [block_setCell h1, block_setCell h1])⟩
  have := h.fate (w' := (w.setCell ⟨L.ab, n * 4 + 2, none⟩ (.bool true)).setCell ⟨L.ab, n * 4 + 2 + 1, none⟩ (.int .i64 k)) n (s.up n) (some k) (by simp [World.setCell]) (fun b hb => by rw [block_setCell hb, block_setCell hb]) (fun j _ h2 h3 => by rw [cell_other (by omega), cell_other (by omega)]) (fun j => by simpa using h.fa j)
    (by rw [cell_other (by omega), cell_other (by omega), h.cd n hn]) (by rw [cell_other (by omega), cell_same (h.cb n hn)]; rfl) (by rw [show n * 4 + 3 = n * 4 + 2 + 1 from rfl, cell_same (u := .int .i64 ((s.fuse n).getD 0 : Nat)) ((cell_other (by omega)).trans (h.cu n hn))]; rfl)
  have e : s.fused n k = { s with up := fun i => if i = n then s.up n else s.up i, fuse := fun i => if i = n then some k else s.fuse i } := by
    unfold St.fused
    have : (fun i => if i = n then s.up n else s.up i) = s.up := by funext i; split <;> simp_all
    rw [this]
  rw [e]; exact this

set_option maxRecDepth 100000 in
set_option maxHeartbeats 1000000 in
theorem nodesFuse_any {w : World} {L : Lay} {s : St} (h : Rep w L s) (_hp5 : s.parts ≤ 5) (n k : Nat) (hn : n ≤ s.parts) :
    Calls Tryz.prog 74 #[.pointer (some ⟨L.nb, 0, none⟩), .int .i64 n, .int .i64 k] w fun e w' => e = .returned (.tuple #[]) ∧ Leaves L w (s.fused n k) w' := by
  have c0 := h.c0
  have cb := h.cb n hn
  have cu := h.cu n hn
  have f2 := h.fa (n * 4 + 2)
  have f3 := h.fa (n * 4 + 3)
  have hl := hide (h.fuseLaid n k hn)
  go_enter Tryz.func74, Tryz.ntmps74
  go_wp2
  go_end0
  exact ⟨rfl, unhide hl⟩

end Go.Proofs.YtekbjlhbjcikdaaGreat
