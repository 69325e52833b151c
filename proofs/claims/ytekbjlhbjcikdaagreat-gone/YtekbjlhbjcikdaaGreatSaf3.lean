/-
  What holds of a world at any time is kept by every call.
-/
import Derived.Test.YtekbjlhbjcikdaaGreatSaf2
namespace Acc

theorem does_deals (s : St) (n : Nat) (l : List Deed) : (s.does n l).1.deals = s.deals ∧ (s.does n l).1.parts = s.parts := by
  induction l generalizing s with
  | nil => exact ⟨rfl, rfl⟩
  | cons a r ih =>
    simp only [St.does]
    split
    · exact ⟨rfl, rfl⟩
    · have h := ih ((s.burn n).act n a)
      cases a <;> exact h
theorem heard_deals (s : St) (m : Msg) : (s.heard m).deals = s.deals ∧ (s.heard m).parts = s.parts := by unfold St.heard; split <;> exact ⟨rfl, rfl⟩
theorem recv_deals (s : St) (m : Msg) : (s.recv m).1.deals = s.deals ∧ (s.recv m).1.parts = s.parts := by
  have h1 := does_deals (s.heard m) m.to ((s.heard m).acts m)
  have h2 := heard_deals s m
  exact ⟨h1.1.trans h2.1, h1.2.trans h2.2⟩
theorem come_deals (s : St) (i : Nat) (m : Msg) : (s.come i m).1.deals = s.deals ∧ (s.come i m).1.parts = s.parts := by
  unfold St.come
  split
  · exact recv_deals _ _
  · exact ⟨rfl, rfl⟩
theorem dlv_deals (s : St) (i : Nat) : (s.dlv i).1.deals = s.deals ∧ (s.dlv i).1.parts = s.parts := by
  unfold St.dlv
  split
  · exact come_deals _ _ _
  · exact ⟨rfl, rfl⟩
theorem giveFrom_deals (s : St) (n t : Nat) : (s.giveFrom n t).1.deals = s.deals ∧ (s.giveFrom n t).1.parts = s.parts := by
  induction n generalizing s t with
  | zero => exact ⟨rfl, rfl⟩
  | succ n ih =>
    have hd := does_deals s 0 (s.all t 4 5)
    simp only [St.giveFrom, andThen]
    split
    · split
      · have := ih (s.does 0 (s.all t 4 5)).1 (t + 1)
        exact ⟨this.1.trans hd.1, this.2.trans hd.2⟩
      · exact hd
    · exact ih s (t + 1)
theorem askFrom_deals (s : St) (p n t : Nat) : (s.askFrom p n t).1.deals = s.deals ∧ (s.askFrom p n t).1.parts = s.parts := by
  induction n generalizing s t with
  | zero => exact ⟨rfl, rfl⟩
  | succ n ih =>
    have hd := does_deals s p (s.asks p t)
    simp only [St.askFrom, andThen]
    split
    · split
      · have := ih (s.does p (s.asks p t)).1 (t + 1)
        exact ⟨this.1.trans hd.1, this.2.trans hd.2⟩
      · exact hd
    · exact ih s (t + 1)
theorem tick_deals (s : St) (n : Nat) : (s.tick n).1.deals = s.deals ∧ (s.tick n).1.parts = s.parts := by
  unfold St.tick
  split
  · exact giveFrom_deals _ _ _
  · exact askFrom_deals _ _ _ _
theorem rcv_deals (s : St) (n : Nat) : (s.rcv n).1.deals = s.deals ∧ (s.rcv n).1.parts = s.parts := by
  unfold St.rcv
  split
  · exact giveFrom_deals (s.rise n) _ _
  · exact ⟨rfl, rfl⟩
theorem bgn_deals (s : St) (ws : List Wr) : (s.bgn ws).1.deals = s.deals ++ [ws] ∧ (s.bgn ws).1.parts = s.parts := does_deals (s.deal' ws) _ _

/-- All that holds at any time. -/
structure Ok (s : St) : Prop where
  inv : Inv s
  keys : Keys s
theorem Ok.of {s s' : St} (h : Ok s) (hi : Inv s') (e : s'.deals = s.deals) : Ok s' := ⟨hi, by unfold Keys; rw [e]; exact h.keys⟩

theorem Ok.dlv {s : St} (h : Ok s) (i : Nat) : Ok (s.dlv i).1 := by
  refine h.of ?_ (dlv_deals s i).1
  unfold St.dlv
  split
  · rename_i m hm
    unfold St.come
    split
    · exact (h.inv.drop i).recv h.keys m (((same_drop s i).msg m).2 (h.inv.msg m (List.mem_of_getElem? hm)))
    · exact h.inv.drop i
  · exact h.inv
theorem Ok.drop {s : St} (h : Ok s) (i : Nat) : Ok (s.drop i) := h.of (h.inv.drop i) rfl
theorem Ok.dbl {s : St} (h : Ok s) (i : Nat) : Ok (s.dbl i) := by
  unfold St.dbl
  split
  · rename_i m hm
    exact h.of (h.inv.send m (h.inv.msg m (List.mem_of_getElem? hm))) rfl
  · exact h
theorem Ok.down {s : St} (h : Ok s) (n : Nat) : Ok (s.down n) := h.of (h.inv.down n) rfl
theorem Ok.rise {s : St} (h : Ok s) (n : Nat) : Ok (s.rise n) := h.of (h.inv.rise n) rfl
theorem Ok.fused {s : St} (h : Ok s) (n k : Nat) (hk : k < 9223372036854775808) : Ok (s.fused n k) := h.of (h.inv.fused n k hk) rfl

theorem Ok.giveFrom {s : St} (h : Ok s) (n t : Nat) : Ok (s.giveFrom n t).1 := by
  induction n generalizing s t with
  | zero => exact h
  | succ n ih =>
    simp only [St.giveFrom]
    split
    · rename_i h1
      have h0 := ((h.inv.h1).1 h1).2
      have hd := h.of (h.inv.aborted t h0) (does_deals _ _ _).1
      unfold andThen
      split
      · exact ih hd (t + 1)
      · exact hd
    · exact ih h (t + 1)
theorem Inv.asks {s : St} (hi : Inv s) (p t : Nat) (h2 : s.h p t = [2]) : Inv (s.does p (s.asks p t)).1 := by
  have hp : 1 ≤ p := by
    rcases Nat.eq_zero_or_pos p with e | e
    · subst e
      have := hi.law 0 t
      unfold Law at this
      rw [h2] at this
      simp at this
    · exact e
  obtain ⟨hm, h0⟩ := hi.nmb p t hp (by rw [h2]; simp)
  rw [asks_eq]
  refine (hi.sends p _ ?_).1
  intro m hm'
  rcases List.mem_cons.1 hm' with rfl | hm'
  · exact ⟨h0, .inr (.inr (.inr (.inr (.inr ⟨rfl, hm, .inl rfl⟩))))⟩
  · obtain ⟨x, hx, rfl⟩ := List.mem_map.1 hm'
    exact ⟨h0, .inr (.inr (.inr (.inr (.inr ⟨rfl, hm, .inr (List.mem_filter.1 hx).1⟩))))⟩
theorem Ok.askFrom {s : St} (h : Ok s) (p n t : Nat) : Ok (s.askFrom p n t).1 := by
  induction n generalizing s t with
  | zero => exact h
  | succ n ih =>
    simp only [St.askFrom]
    split
    · rename_i h1
      have hd := h.of (h.inv.asks p t ((h.inv.h2).1 h1)) (does_deals _ _ _).1
      unfold andThen
      split
      · exact ih hd (t + 1)
      · exact hd
    · exact ih h (t + 1)
theorem Ok.tick {s : St} (h : Ok s) (n : Nat) : Ok (s.tick n).1 := by
  unfold St.tick
  split
  · exact h.giveFrom _ _
  · exact h.askFrom _ _ _
theorem Ok.rcv {s : St} (h : Ok s) (n : Nat) : Ok (s.rcv n).1 := by
  unfold St.rcv
  split
  · exact (h.rise n).giveFrom _ _
  · exact h.rise n

/-- Writes of a transaction, in a world of so many parts. -/
structure Sound (ws : List Wr) (parts : Nat) : Prop where
  l1 : 1 ≤ ws.length
  l6 : ws.length ≤ 6
  part : ∀ x, x ∈ ws → 1 ≤ x.part ∧ x.part ≤ parts
  key : ∀ x, x ∈ ws → 0 ≤ x.key ∧ x.key < 4

theorem deal_snoc_old (s : St) (ws : List Wr) (t : Nat) (h1 : 1 ≤ t) (h : t ≤ s.deals.length) : (s.deal' ws).deal t = s.deal t := by
  unfold St.deal St.deal'
  simp only [List.getD_eq_getElem?_getD]
  rw [List.getElem?_append_left (by omega)]
theorem deal_snoc_new (s : St) (ws : List Wr) : (s.deal' ws).deal (s.deals.length + 1) = ws := by
  unfold St.deal St.deal'
  simp [List.getD_eq_getElem?_getD]

theorem Inv.dealt {s : St} (hi : Inv s) (ws : List Wr) (hs : Sound ws s.parts) (hd : s.deals.length < 12) : Inv (s.deal' ws) := by
  have hh : ∀ n t, (s.deal' ws).h n t = s.h n t := fun _ _ => rfl
  have hnil : ∀ t, s.deals.length < t → ∀ n, s.h n t = [] := by
    intro t ht n
    have h0 : s.h 0 t = [] := by
      apply Classical.byContradiction
      intro hc
      have := hi.rng t hc
      omega
    rcases Nat.eq_zero_or_pos n with e | e
    · rw [e]; exact h0
    · apply Classical.byContradiction
      intro hc
      exact (hi.nmb n t e hc).2 h0
  have hrg : ∀ n t, s.h n t ≠ [] → 1 ≤ t ∧ t ≤ s.deals.length := by
    intro n t hn
    rcases Nat.eq_zero_or_pos n with e | e
    · subst e; exact hi.rng t hn
    · exact hi.rng t (hi.nmb n t e hn).2
  have hde : ∀ n t, s.h n t ≠ [] → (s.deal' ws).deal t = s.deal t := fun n t hn => deal_snoc_old s ws t (hrg n t hn).1 (hrg n t hn).2
  have hmem : ∀ n t m, s.h n t ≠ [] → ((s.deal' ws).mem t m ↔ s.mem t m) := fun n t m hn => by unfold St.mem; rw [hde n t hn]
  have hdead : ∀ t, s.h 0 t ≠ [] → (s.dead t → (s.deal' ws).dead t) := by
    intro t hn hdd
    rcases hdd with q | ⟨m, hm, q⟩
    · exact .inl q
    · exact .inr ⟨m, (hmem 0 t m hn).2 hm, q⟩
  refine ⟨hi.p1, hi.p5, by simp [St.deal']; omega, ?_, ?_, hi.fl, hi.fb, hi.law, ?_, ?_, ?_, hi.ntd, hi.com, ?_, ?_, ?_⟩
  · intro x hx
    rcases List.mem_append.1 hx with hx | hx
    · exact hi.dl x hx
    · simp at hx; subst hx; exact ⟨hs.l1, hs.l6⟩
  · intro x hx y hy
    rcases List.mem_append.1 hx with hx | hx
    · exact hi.dp x hx y hy
    · simp at hx; subst hx; exact hs.part y hy
  · intro t ht
    have := hi.rng t ht
    simp [St.deal']; omega
  · intro n t h1 hn
    exact ⟨(hmem n t n hn).2 (hi.nmb n t h1 hn).1, (hi.nmb n t h1 hn).2⟩
  · intro m hm
    obtain ⟨a, b⟩ := hi.msg m hm
    have mm : ∀ x, s.mem m.trans x → (s.deal' ws).mem m.trans x := fun x hx => (hmem 0 m.trans x a).2 hx
    have oo : ∀ x, (x = 0 ∨ s.mem m.trans x) → (x = 0 ∨ (s.deal' ws).mem m.trans x) := fun x hx => hx.imp id (mm x)
    refine ⟨a, ?_⟩
    rcases b with b | b | b | b | b | b
    · exact .inl ⟨b.1, b.2.1, mm _ b.2.2⟩
    · exact .inr (.inl ⟨b.1, b.2.1, mm _ b.2.2.1, b.2.2.2⟩)
    · exact .inr (.inr (.inl ⟨b.1, b.2.1, mm _ b.2.2.1, hdead _ a b.2.2.2⟩))
    · exact .inr (.inr (.inr (.inl ⟨b.1, mm _ b.2.1, oo _ b.2.2.1, b.2.2.2⟩)))
    · exact .inr (.inr (.inr (.inr (.inl ⟨b.1, mm _ b.2.1, oo _ b.2.2.1, hdead _ a b.2.2.2⟩))))
    · exact .inr (.inr (.inr (.inr (.inr ⟨b.1, mm _ b.2.1, oo _ b.2.2⟩))))
  · intro n t h1 hn
    exact hdead t (hi.nmb n t h1 (by rw [show s.h n t = [2, 4] from hn]; simp)).2 (hi.abt n t h1 hn)
  · intro t hc m hm
    exact hi.cmt t hc m ((hmem 0 t m (by rw [show s.h 0 t = [1, 3] from hc]; simp)).1 hm)
  · intro p t t' k hp h1 h2 f1 f2
    rw [hde p t (by rw [show s.h p t = [2] from h1]; simp)] at f1
    rw [hde p t' (by rw [show s.h p t' = [2] from h2]; simp)] at f2
    exact hi.exc p t t' k hp h1 h2 f1 f2

theorem Ok.bgn {s : St} (h : Ok s) (ws : List Wr) (hs : Sound ws s.parts) (hd : s.deals.length < 12) : Ok (s.bgn ws).1 := by
  have h1 := h.inv.dealt ws hs hd
  have h2 : Keys (s.deal' ws) := by
    intro x hx y hy
    rcases List.mem_append.1 hx with hx | hx
    · exact h.keys x hx y hy
    · simp at hx; subst hx; exact hs.key y hy
  have h0 : (s.deal' ws).h 0 (s.deals.length + 1) = [] := by
    apply Classical.byContradiction
    intro hc
    have := (h.inv.rng _ hc).2
    omega
  exact Ok.of ⟨h1, h2⟩ (h1.begun _ h0 (by omega) (by simp [St.deal'])) (does_deals _ _ _).1

def St.new (p : Nat) : St := ⟨p, fun _ => [], [], fun _ _ => false, [], fun _ => true, fun _ => none⟩
theorem Ok.new (p : Nat) (h1 : 1 ≤ p) (h5 : p ≤ 5) : Ok (St.new p) where
  inv := by
    have hh : ∀ n t, (St.new p).h n t = [] := fun _ _ => rfl
    refine ⟨h1, h5, by simp [St.new], by simp [St.new], by simp [St.new], by simp [St.new], by simp [St.new], ?_, ?_, ?_, by simp [St.new], by simp [St.new], ?_, ?_, ?_, ?_⟩
    · intro n t; rw [hh]; unfold Law; split <;> simp
    · intro t h; rw [hh] at h; simp at h
    · intro n t _ h; rw [hh] at h; simp at h
    · intro n t _ h; rw [hh] at h; simp at h
    · intro n t _ h; rw [hh] at h; simp at h
    · intro t h; rw [hh] at h; simp at h
    · intro p t _ _ _ h; rw [hh] at h; simp at h
  keys := by intro ws h; simp [St.new] at h

/-- A log has two records of each transaction at most. -/
theorem len_le (D : Nat) (l : List (Nat × Nat)) (h1 : ∀ x, x ∈ l → 1 ≤ x.1 ∧ x.1 ≤ D) (h2 : ∀ t, (hist l t).length ≤ 2) : l.length ≤ 2 * D := by
  induction D generalizing l with
  | zero =>
    cases l with
    | nil => simp
    | cons x r => have := h1 x (by simp); omega
  | succ D ih =>
    have e : l.length = (l.filter fun x => x.1 == D + 1).length + (l.filter fun x => !(x.1 == D + 1)).length := by
      clear h1 h2 ih
      induction l with
      | nil => rfl
      | cons x r ih => simp only [List.filter_cons]; cases (x.1 == D + 1) <;> simp <;> omega
    have h3 := h2 (D + 1)
    unfold hist at h3
    rw [List.length_map] at h3
    have h4 := ih (l.filter fun x => !(x.1 == D + 1)) (fun x hx => by
      obtain ⟨a, b⟩ := List.mem_filter.1 hx
      have := h1 x a
      simp at b
      omega) (fun t => by
      refine Nat.le_trans ?_ (h2 t)
      unfold hist
      rw [List.length_map, List.length_map]
      exact (List.Sublist.filter _ List.filter_sublist).length_le)
    omega
theorem Law.len {n : Nat} {h : List Nat} (hl : Law n h) : h.length ≤ 2 := by
  unfold Law at hl
  split at hl
  · rcases hl with q | q | q | q <;> simp [q]
  · rcases hl with q | q | q | q | q <;> simp [q]
theorem Inv.logs {s : St} (hi : Inv s) (n : Nat) (x : Nat × Nat) (hx : x ∈ s.log n) : 1 ≤ x.1 ∧ x.1 ≤ s.deals.length := by
  have hn : s.h n x.1 ≠ [] := by
    have := (mem_hist (s.log n) x.1 x.2).2 hx
    intro e
    unfold St.h at e
    rw [e] at this
    simp at this
  rcases Nat.eq_zero_or_pos n with e | e
  · subst e; exact hi.rng _ hn
  · exact hi.rng _ (hi.nmb n _ e hn).2
theorem Inv.len {s : St} (hi : Inv s) (n : Nat) : (s.log n).length ≤ 24 := by
  have := len_le s.deals.length (s.log n) (hi.logs n) (fun t => (hi.law n t).len)
  have := hi.d12
  omega

end Acc
