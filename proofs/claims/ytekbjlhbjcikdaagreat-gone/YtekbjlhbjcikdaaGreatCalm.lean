/-
  Worlds in which nobody crashes: the calls leave what they left without fuses.
-/
import Derived.Test.YtekbjlhbjcikdaaGreatFace
namespace Acc

theorem hasPart_iff (ws : List Wr) (p : Int) : hasPart ws p = true ↔ ∃ x, x ∈ ws ∧ x.part = p := by
  induction ws with
  | nil => simp [hasPart]
  | cons a r ih => simp [hasPart, ih]


structure Still (s : St) : Prop where
  up : ∀ n, s.up n = true
  fu : ∀ n, s.fuse n = none

theorem burn_calm (s : St) (n : Nat) (h : s.fuse n = none) : s.burn n = s := by
  unfold St.burn
  have : (fun i => if i = n then (s.fuse n).map (· - 1) else s.fuse i) = s.fuse := by funext i; rw [h]; split <;> simp_all
  rw [this]
theorem act_fuse (s : St) (n : Nat) (a : Deed) : (s.act n a).fuse = s.fuse ∧ (s.act n a).up = s.up := by cases a <;> exact ⟨rfl, rfl⟩
theorem does_calm (s : St) (n : Nat) (l : List Deed) (h : s.fuse n = none) : s.does n l = (l.foldl (fun s a => s.act n a) s, true) := by
  induction l generalizing s with
  | nil => rfl
  | cons a r ih =>
    simp only [St.does, List.foldl_cons]
    rw [if_neg (by rw [h]; simp), burn_calm s n h]
    exact ih _ (by rw [(act_fuse s n a).1]; exact h)
theorem fold_fuse (s : St) (n : Nat) (l : List Deed) : (l.foldl (fun s a => s.act n a) s).fuse = s.fuse ∧ (l.foldl (fun s a => s.act n a) s).up = s.up := by
  induction l generalizing s with
  | nil => exact ⟨rfl, rfl⟩
  | cons a r ih => simp only [List.foldl_cons]; rw [(ih _).1, (ih _).2]; exact act_fuse s n a
theorem Still.does {s : St} (h : Still s) (n : Nat) (l : List Deed) : Still (s.does n l).1 := by
  rw [does_calm s n l (h.fu n)]
  exact ⟨fun i => by rw [(fold_fuse s n l).2]; exact h.up i, fun i => by rw [(fold_fuse s n l).1]; exact h.fu i⟩
theorem fold_tell (s : St) (kind t : Nat) (l : List Nat) : (l.map fun m => Deed.snd ⟨kind, 0, m, t⟩).foldl (fun s a => s.act 0 a) s = s.tellTo kind t l := by
  induction l generalizing s with
  | nil => rfl
  | cons m r ih => simp only [List.map_cons, List.foldl_cons, St.tellTo]; exact ih _
theorem all_calm (s : St) (h : s.fuse 0 = none) (t st kind : Nat) : (s.does 0 (s.all t st kind)) = ((s.write 0 t st).tell kind t, true) := by
  rw [does_calm s 0 _ h]
  unfold St.all
  rw [List.foldl_cons, fold_tell]
  rfl
theorem bgn_calm (s : St) (h : Still s) (ws : List Wr) : (s.bgn ws).1 = s.begin ws := by
  unfold St.bgn St.begin
  have := all_calm (s.deal' ws) (h.fu 0) (s.deals.length + 1) 1 1
  rw [this]
  rfl
theorem Still.deal' {s : St} (h : Still s) (ws : List Wr) : Still (s.deal' ws) := ⟨h.up, h.fu⟩
theorem Still.bgn {s : St} (h : Still s) (ws : List Wr) : Still (s.bgn ws).1 := (h.deal' ws).does _ _

theorem recv_ne2 {s : St} {m : Msg} (h : m.kind ≠ 2) : s.recv m = s.does m.to (s.acts m) := by
  unfold St.recv St.heard; rw [if_neg (fun e => h e.1)]
theorem recv_fu (s : St) (h : ∀ n, s.fuse n = none) (m : Msg) (hk : m.kind = 2 ∨ m.kind = 3 → m.to = 0) : (s.recv m).1 = s.receive m := by
  by_cases h2 : m.kind = 2
  · have h0 : m.to = 0 := hk (.inl h2)
    unfold St.recv St.heard St.acts St.receive
    rw [h2]
    simp only [true_and, St.yes]
    by_cases h1 : s.state m.to m.trans = 1
    · have e : (s.note m.trans m.frm).state m.to m.trans = 1 := h1
      rw [if_pos h1, if_pos h1]
      simp only [e, true_and]
      split
      · rw [h0]
        have := all_calm (s.note m.trans m.frm) (h 0) m.trans 3 4
        rw [this]
      · rfl
    · rw [if_neg h1, if_neg h1]
      simp only [h1, false_and, if_false]; rfl
  · rw [recv_ne2 h2]
    obtain ⟨kind, frm, to, trans⟩ := m
    simp only at hk h2
    unfold St.acts St.receive
    simp only
    match kind, hk, h2 with
    | 0, _, _ => rfl
    | 1, _, _ =>
      simp only
      rw [does_calm s to _ (h to)]
      simp only [St.asked, St.prepare, St.vote]
      split
      · split <;> rfl
      · split
        · rfl
        · split <;> rfl
    | 2, _, h2 => exact absurd rfl h2
    | 3, hk, _ =>
      have h0 : to = 0 := hk (.inr rfl)
      subst h0
      simp only [St.no]
      split
      · have := all_calm s (h 0) trans 4 5
        rw [this]
      · rfl
    | 4, _, _ =>
      simp only [St.commit]
      rw [does_calm s to _ (h to)]
      split <;> rfl
    | 5, _, _ =>
      simp only [St.abort]
      rw [does_calm s to _ (h to)]
      split <;> rfl
    | 6, _, _ =>
      simp only [St.ask]
      rw [does_calm s to _ (h to)]
      simp only [St.doubted]
      split
      · rfl
      · split
        · rfl
        · split <;> rfl
    | n + 7, _, _ => rfl
theorem recv_calm (s : St) (h : Still s) (m : Msg) (hk : m.kind = 2 ∨ m.kind = 3 → m.to = 0) : (s.recv m).1 = s.receive m := recv_fu s h.fu m hk
theorem Still.recv {s : St} (h : Still s) (m : Msg) : Still (s.recv m).1 := by
  have : Still (s.heard m) := by unfold St.heard; split; exact ⟨h.up, h.fu⟩; exact h
  exact this.does _ _
theorem Still.drop {s : St} (h : Still s) (i : Nat) : Still (s.drop i) := ⟨h.up, h.fu⟩
theorem Still.dlv {s : St} (h : Still s) (i : Nat) : Still (s.dlv i).1 := by
  unfold St.dlv
  split
  · unfold St.come
    split
    · exact (h.drop i).recv _
    · exact h.drop i
  · exact h
theorem dlv_calm (s : St) (h : Still s) (hk : Ok s) (i : Nat) : (s.dlv i).1 = s.deliver i := by
  unfold St.dlv St.deliver
  cases hf : s.fly[i]? with
  | none => rfl
  | some m =>
    simp only
    have hm := (hk.inv.msg m (List.mem_of_getElem? hf)).2
    have hz : m.kind = 2 ∨ m.kind = 3 → m.to = 0 := by
      intro hh
      rcases hm with b | b | b | b | b | b
      · have := b.1; omega
      · exact b.2.1
      · exact b.2.1
      · have := b.1; omega
      · have := b.1; omega
      · have := b.1; omega
    unfold St.come
    rw [if_pos (h.up m.to)]
    exact recv_calm (s.drop i) (h.drop i) m hz
theorem Still.new (p : Nat) : Still (St.new p) := ⟨fun _ => rfl, fun _ => rfl⟩
end Acc
