/-
  The plain part of NOBODY WAITS FOR EVER: nodes that are renewed, and patience that ends where nothing is flying.
-/
import Derived.Test.YtekbjlhbjcikdaaGreatLiv2
namespace Acc

/-- Who is down has no fuse; what is no node is up and has none. -/
structure Neat (s : St) : Prop where
  cold : ∀ n, s.up n = false → s.fuse n = none
  far : ∀ n, s.parts < n → s.up n = true ∧ s.fuse n = none

theorem Neat.of {s s' : St} (h : Neat s) (e1 : s'.up = s.up) (e2 : s'.fuse = s.fuse) (e3 : s'.parts = s.parts) : Neat s' := ⟨by rw [e1, e2]; exact h.cold, by rw [e1, e2, e3]; exact h.far⟩
theorem Neat.down {s : St} (h : Neat s) (n : Nat) (hn : n ≤ s.parts) : Neat (s.down n) := by
  refine ⟨?_, ?_⟩
  · intro i hi
    simp only [St.down] at hi ⊢
    split
    · rfl
    · rename_i e; rw [if_neg e] at hi; exact h.cold i hi
  · intro i hi
    have hi : s.parts < i := hi
    simp only [St.down]
    rw [if_neg (by omega), if_neg (by omega)]
    exact h.far i hi
theorem Neat.burn {s : St} (h : Neat s) (n : Nat) (hn : n ≤ s.parts) : Neat (s.burn n) := by
  refine ⟨?_, ?_⟩
  · intro i hi
    have := h.cold i hi
    simp only [St.burn]
    split
    · rename_i e; subst e; rw [this]; rfl
    · exact this
  · intro i hi
    have hi : s.parts < i := hi
    simp only [St.burn]
    rw [if_neg (by omega)]
    exact h.far i hi
theorem Neat.does {s : St} (h : Neat s) (n : Nat) (hn : n ≤ s.parts) (l : List Deed) : Neat (s.does n l).1 := by
  induction l generalizing s with
  | nil => exact h
  | cons a r ih =>
    simp only [St.does]
    split
    · exact h.down n hn
    · have h1 := h.burn n hn
      have h2 : Neat ((s.burn n).act n a) := by cases a <;> exact ⟨h1.cold, h1.far⟩
      exact ih h2 (by cases a <;> exact hn)
theorem Neat.rise {s : St} (h : Neat s) (n : Nat) : Neat (s.rise n) := by
  refine ⟨?_, ?_⟩
  · intro i hi
    simp only [St.rise] at hi
    split at hi
    · cases hi
    · exact h.cold i hi
  · intro i hi
    have hi : s.parts < i := hi
    refine ⟨?_, (h.far i hi).2⟩
    simp only [St.rise]
    split
    · rfl
    · exact (h.far i hi).1
theorem Neat.giveFrom {s : St} (h : Neat s) (n t : Nat) : Neat (s.giveFrom n t).1 := by
  induction n generalizing s t with
  | zero => exact h
  | succ n ih =>
    simp only [St.giveFrom]
    split
    · have hd := h.does 0 (Nat.zero_le _) (s.all t 4 5)
      unfold andThen
      split
      · exact ih hd (t + 1)
      · exact hd
    · exact ih h (t + 1)
theorem Neat.askFrom {s : St} (h : Neat s) (p : Nat) (hp : p ≤ s.parts) (n t : Nat) : Neat (s.askFrom p n t).1 := by
  induction n generalizing s t with
  | zero => exact h
  | succ n ih =>
    simp only [St.askFrom]
    split
    · have hd := h.does p hp (s.asks p t)
      unfold andThen
      split
      · exact ih hd (by rw [(does_deals _ _ _).2]; exact hp) (t + 1)
      · exact hd
    · exact ih h hp (t + 1)
theorem Inv.to_le {s : St} (hi : Inv s) {m : Msg} (hm : MsgOk s m) : m.to ≤ s.parts := by
  rcases hm.2 with b | b | b | b | b | b
  · exact hi.mem_le b.2.2
  · rw [b.2.1]; exact Nat.zero_le _
  · rw [b.2.1]; exact Nat.zero_le _
  · exact hi.mem_le b.2.1
  · exact hi.mem_le b.2.1
  · rcases b.2.2 with e | e
    · rw [e]; exact Nat.zero_le _
    · exact hi.mem_le e
theorem Neat.deliverP {s : St} (h : Neat s) (hk : Ok s) (i : Int) : Neat (s.deliverP i).1 := by
  unfold St.deliverP
  split
  · unfold St.dlv
    split
    · rename_i m hm
      have hle := hk.inv.to_le (hk.inv.msg m (List.mem_of_getElem? hm))
      have hd : Neat (s.drop i.toNat) := h.of rfl rfl rfl
      unfold St.come
      split
      · unfold St.recv
        have hh : Neat ((s.drop i.toNat).heard m) := by unfold St.heard; split; exact ⟨hd.cold, hd.far⟩; exact hd
        exact hh.does m.to (by rw [(heard_deals _ _).2]; exact hle) _
      · exact hd
    · exact h
  · exact h
theorem Neat.dropP {s : St} (h : Neat s) (i : Int) : Neat (s.dropP i).1 := by unfold St.dropP; split; exact h.of rfl rfl rfl; exact h
theorem Neat.doubleP {s : St} (h : Neat s) (i : Int) : Neat (s.doubleP i).1 := by
  unfold St.doubleP St.dbl
  split
  · split
    · exact h.of rfl rfl rfl
    · exact h
  · exact h
theorem nodeE_zero {s : St} {n : Int} {u : Bool} (h : s.nodeE n u = 0) : 0 ≤ n ∧ n ≤ s.parts ∧ s.up n.toNat = u := by
  unfold St.nodeE at h
  split at h
  · split at h
    · exact ⟨by omega, by omega, ‹_›⟩
    · omega
  · omega
theorem Neat.tickP {s : St} (h : Neat s) (n : Int) : Neat (s.tickP n).1 := by
  unfold St.tickP
  split
  · rename_i e
    have := nodeE_zero e
    unfold St.tick
    split
    · exact h.giveFrom _ _
    · exact h.askFrom _ (by omega) _ _
  · exact h
theorem Neat.crashP {s : St} (h : Neat s) (n : Int) : Neat (s.crashP n).1 := by
  unfold St.crashP
  split
  · rename_i e; have := nodeE_zero e; exact h.down _ (by omega)
  · exact h
theorem Neat.recoverP {s : St} (h : Neat s) (n : Int) : Neat (s.recoverP n).1 := by
  unfold St.recoverP
  split
  · unfold St.rcv
    split
    · exact (h.rise _).giveFrom _ _
    · exact h.rise _
  · exact h
theorem Neat.fuseP {s : St} (h : Neat s) (n a : Int) : Neat (s.fuseP n a).1 := by
  unfold St.fuseP
  split
  · rename_i e
    have := nodeE_zero e
    split
    · refine ⟨?_, ?_⟩
      · intro i hi
        simp only [St.fused] at hi ⊢
        split
        · rename_i e2; rw [e2, this.2.2] at hi; cases hi
        · exact h.cold i hi
      · intro i hi
        have hi : s.parts < i := hi
        simp only [St.fused]
        rw [if_neg (by omega)]
        exact h.far i hi
    · exact h
  · exact h
theorem Neat.beginP {s : St} (h : Neat s) (ws : List Wr) : Neat (s.beginP ws).1 := by
  unfold St.beginP
  split
  · split
    · split
      · unfold St.bgn
        have hd : Neat (s.deal' ws) := ⟨h.cold, h.far⟩
        exact hd.does 0 (Nat.zero_le _) _
      · exact h
    · exact h
  · exact h
theorem Neat.new (p : Nat) : Neat (St.new p) := ⟨fun _ _ => rfl, fun _ _ => ⟨rfl, rfl⟩⟩

/-- The coordinator gives up all that is begun, if it has no fuse. -/
theorem giveFrom_calm {s : St} (hf : s.fuse 0 = none) (n t : Nat) : (s.giveFrom n t).2 = true ∧ (s.giveFrom n t).1.fuse = s.fuse ∧ (s.giveFrom n t).1.up = s.up ∧ (∀ i t', i ≠ 0 → (s.giveFrom n t).1.state i t' = s.state i t') ∧
    (∀ t', t' < t ∨ t + n ≤ t' → (s.giveFrom n t).1.state 0 t' = s.state 0 t') ∧ (∀ t', t ≤ t' → t' < t + n → (s.giveFrom n t).1.state 0 t' ≠ 1) := by
  induction n generalizing s t with
  | zero => exact ⟨rfl, rfl, rfl, fun _ _ _ => rfl, fun _ _ => rfl, fun t' h1 h2 => by omega⟩
  | succ n ih =>
    by_cases h1 : s.state 0 t = 1
    · have e : s.giveFrom (n + 1) t = ((s.write 0 t 4).tell 5 t).giveFrom n (t + 1) := by
        simp only [St.giveFrom]
        rw [if_pos h1, all_calm s hf]
        rfl
      have hk := sumW_tellTo (s.write 0 t 4) 5 t (members ((s.write 0 t 4).deal t)) (by omega)
      have hfu : ((s.write 0 t 4).tell 5 t).fuse = s.fuse ∧ ((s.write 0 t 4).tell 5 t).up = s.up := by
        have := all_calm s hf t 4 5
        have h2 := fold_fuse s 0 (s.all t 4 5)
        rw [does_calm s 0 _ hf] at this
        injection this with this
        rw [← this]; exact h2
      have hst : ∀ i t', ((s.write 0 t 4).tell 5 t).state i t' = (s.write 0 t 4).state i t' := fun i t' => hk.2.1 i t'
      obtain ⟨a, b, c, d, f, g⟩ := ih (s := (s.write 0 t 4).tell 5 t) (by rw [hfu.1]; exact hf) (t + 1)
      rw [e]
      refine ⟨a, b.trans hfu.1, c.trans hfu.2, fun i t' hi => ?_, fun t' ht' => ?_, fun t' q1 q2 => ?_⟩
      · rw [d i t' hi, hst, state_write, if_neg (fun e => hi e.1)]
      · rw [f t' (by omega), hst, state_write, if_neg (by omega)]
      · by_cases e2 : t' = t
        · rw [f t' (by omega), hst, state_write, if_pos ⟨rfl, e2.symm⟩]; omega
        · exact g t' (by omega) (by omega)
    · have e : s.giveFrom (n + 1) t = s.giveFrom n (t + 1) := by
        simp only [St.giveFrom]
        rw [if_neg h1]
        rfl
      obtain ⟨a, b, c, d, f, g⟩ := ih hf (t + 1)
      rw [e]
      refine ⟨a, b, c, d, fun t' ht' => f t' (by omega), fun t' q1 q2 => ?_⟩
      by_cases e2 : t' = t
      · rw [f t' (by omega), e2]; exact h1
      · exact g t' (by omega) (by omega)
theorem giveFrom_settled {s : St} (h : Settled s) (n t : Nat) : s.giveFrom n t = (s, true) := by
  induction n generalizing t with
  | zero => rfl
  | succ n ih =>
    simp only [St.giveFrom]
    rw [if_neg (h t)]
    exact ih (t + 1)
theorem Inv.state_out {s : St} (hi : Inv s) (n t : Nat) (h : t = 0 ∨ s.deals.length < t) : s.state n t = 0 := by
  apply (hi.h0).2
  apply Classical.byContradiction
  intro hc
  have : s.h 0 t ≠ [] := by
    rcases Nat.eq_zero_or_pos n with e | e
    · subst e; exact hc
    · exact (hi.nmb n t e hc).2
  have := hi.rng t this
  omega

/-- A node crashes, if it is up, and comes up again: no fuse is left. -/
def St.renew (s : St) (n : Nat) : St := ((if s.up n = true then s.down n else s).rcv n).1
theorem renew_deals (s : St) (n : Nat) : (s.renew n).deals = s.deals ∧ (s.renew n).parts = s.parts := by
  unfold St.renew
  split
  · exact rcv_deals (s.down n) n
  · exact rcv_deals s n
theorem Ok.renew {s : St} (h : Ok s) (n : Nat) : Ok (s.renew n) := by
  unfold St.renew
  split
  · exact (h.down n).rcv n
  · exact h.rcv n
theorem renew_facts {s : St} (hk : Ok s) (hn : Neat s) (n : Nat) (hp : n ≤ s.parts) : Neat (s.renew n) ∧ (s.renew n).up n = true ∧ (s.renew n).fuse n = none ∧ (∀ i, i ≠ n → (s.renew n).up i = s.up i ∧ (s.renew n).fuse i = s.fuse i) ∧
    (n = 0 → Settled (s.renew n)) ∧ (n ≠ 0 → (s.renew n).log = s.log) := by
  have hk2 := hk.renew n
  have hd2 := (renew_deals s n).1
  unfold St.renew at hk2 hd2 ⊢
  generalize hs1 : (if s.up n = true then s.down n else s) = s1 at hk2 hd2 ⊢
  have n1 : Neat s1 := by rw [← hs1]; split; exact hn.down n hp; exact hn
  have f1 : s1.fuse n = none := by
    rw [← hs1]
    split
    · simp [St.down]
    · rename_i hu; exact hn.cold n (by simpa using hu)
  have o1 : ∀ i, i ≠ n → s1.up i = s.up i ∧ s1.fuse i = s.fuse i := by
    intro i hi
    rw [← hs1]
    split
    · simp [St.down, hi]
    · exact ⟨rfl, rfl⟩
  have l1 : s1.log = s.log := by rw [← hs1]; split <;> rfl
  have d1 : s1.deals = s.deals := by rw [← hs1]; split <;> rfl
  by_cases h0 : n = 0
  · subst h0
    have e : s1.rcv 0 = (s1.rise 0).giveFrom s1.deals.length 1 := rfl
    obtain ⟨a, b, c, d, f, g⟩ := giveFrom_calm (s := s1.rise 0) f1 s1.deals.length 1
    rw [e] at hk2 hd2 ⊢
    refine ⟨(n1.rise 0).giveFrom _ _, by rw [c]; simp [St.rise], by rw [b]; exact f1, fun i hi => ⟨by rw [c]; simp only [St.rise]; rw [if_neg hi]; exact (o1 i hi).1, by rw [b]; exact (o1 i hi).2⟩, fun _ t => ?_, fun hh => absurd rfl hh⟩
    by_cases ht : 1 ≤ t ∧ t ≤ s1.deals.length
    · exact g t ht.1 (by omega)
    · rw [hk2.inv.state_out 0 t (by rw [hd2, ← d1]; omega)]; omega
  · have e : s1.rcv n = (s1.rise n, true) := by unfold St.rcv; rw [if_neg h0]
    rw [e]
    refine ⟨n1.rise n, by simp [St.rise], f1, fun i hi => ⟨by simp only [St.rise]; rw [if_neg hi]; exact (o1 i hi).1, (o1 i hi).2⟩, fun hh => absurd hh h0, fun _ => l1⟩

/-- Messages are sent, where there is room for them and nobody has a fuse. -/
theorem sends_fly {s : St} (hf : NoFuse s) (p : Nat) (ms : List Msg) (h : s.fly.length + ms.length ≤ 60) : (s.does p (ms.map .snd)).1.fly = s.fly ++ ms ∧ (s.does p (ms.map .snd)).1.log = s.log ∧ (s.does p (ms.map .snd)).1.deals = s.deals := by
  rw [does_calm s p _ (hf p)]
  simp only
  clear hf
  induction ms generalizing s with
  | nil => simp
  | cons m r ih =>
    simp only [List.length_cons] at h
    simp only [List.map_cons, List.foldl_cons]
    have hs : (s.send m).fly = s.fly ++ [m] := send_room s m (by omega)
    obtain ⟨a, b, c⟩ := ih (s := s.send m) (by rw [hs]; simp; omega)
    refine ⟨?_, b, c⟩
    show (List.foldl (fun s a => s.act p a) (s.send m) (r.map .snd)).fly = _
    rw [a, hs]; simp
theorem members_three {s : St} (hi : Inv s) (h3 : s.parts = 3) (t : Nat) : (members (s.deal t)).length ≤ 3 := by
  have out : ∀ m : Nat, 4 ≤ m → m ≤ 5 → hasPart (s.deal t) m = false := by
    intro m h1 h2
    cases hp : hasPart (s.deal t) m with
    | false => rfl
    | true => have := hi.mem_le (t := t) (n := m) ((membersTo_mem _ _ _).2 ⟨by omega, h2, hp⟩); omega
  have h4 := out 4 (by omega) (by omega)
  have h5 := out 5 (by omega) (by omega)
  have e : members (s.deal t) = membersTo (s.deal t) 3 := by
    have s4 : membersTo (s.deal t) 4 = membersTo (s.deal t) 3 ++ (if hasPart (s.deal t) (((3 : Nat) : Int) + 1) then [3 + 1] else []) := rfl
    have s5 : membersTo (s.deal t) 5 = membersTo (s.deal t) 4 ++ (if hasPart (s.deal t) (((4 : Nat) : Int) + 1) then [4 + 1] else []) := rfl
    have h4' : hasPart (s.deal t) (((3 : Nat) : Int) + 1) = false := h4
    have h5' : hasPart (s.deal t) (((4 : Nat) : Int) + 1) = false := h5
    unfold members
    rw [s5, s4, h4', h5']
    simp
  rw [e]
  have : ∀ (ws : List Wr) n, (membersTo ws n).length ≤ n := by
    intro ws n
    induction n with
    | zero => simp [membersTo]
    | succ n ih => simp only [membersTo, List.length_append]; split <;> simp <;> omega
  exact this _ 3

/-- What a part has asked, when its patience has ended and nothing was flying. -/
structure Asked (s s' : St) (p T : Nat) : Prop where
  log : s'.log = s.log
  deals : s'.deals = s.deals
  len : s'.fly.length ≤ 4 * T
  kind : ∀ m, m ∈ s'.fly → m.kind = 6
  nofuse : NoFuse s'
  up : s'.up = s.up
  zero : ∀ t, 1 ≤ t → t ≤ T → s.state p t = 2 → (⟨6, p, 0, t⟩ : Msg) ∈ s'.fly
  mems : ∀ t n, 1 ≤ t → t ≤ T → s.state p t = 2 → s.mem t n → n ≠ p → (⟨6, p, n, t⟩ : Msg) ∈ s'.fly
theorem asked_one {s s' : St} {p T : Nat} (hi : Inv s) (h3 : s.parts = 3) (hT : T < 12) (h : Asked s s' p T) :
    (if s'.state p (T + 1) = 2 then s'.does p (s'.asks p (T + 1)) else (s', true)).2 = true ∧ Asked s (if s'.state p (T + 1) = 2 then s'.does p (s'.asks p (T + 1)) else (s', true)).1 p (T + 1) := by
  have hst : ∀ n t, s'.state n t = s.state n t := fun n t => by unfold St.state; rw [h.log]
  have hde : ∀ t, s'.deal t = s.deal t := fun t => by unfold St.deal; rw [h.deals]
  split
  · rename_i h2
    have hm3 := members_three hi h3 (T + 1)
    rw [← hde] at hm3
    rw [asks_eq]
    generalize hms : ((⟨6, p, 0, T + 1⟩ : Msg) :: ((members (s'.deal (T + 1))).filter fun m => m != p).map fun m => (⟨6, p, m, T + 1⟩ : Msg)) = ms
    have hml : ms.length ≤ 4 := by
      rw [← hms]
      simp only [List.length_cons, List.length_map]
      have := (List.filter_sublist (l := members (s'.deal (T + 1))) (p := fun m => m != p)).length_le
      omega
    obtain ⟨a, b, c⟩ := sends_fly h.nofuse p ms (by have := h.len; omega)
    have hdn := does_nofuse h.nofuse p (ms.map .snd)
    refine ⟨hdn.1, b.trans h.log, c.trans h.deals, ?_, ?_, hdn.2.1, hdn.2.2.trans h.up, ?_, ?_⟩
    · rw [a, List.length_append]; have := h.len; omega
    · intro m hm
      rw [a] at hm
      rcases List.mem_append.1 hm with hm | hm
      · exact h.kind m hm
      · rw [← hms] at hm
        rcases List.mem_cons.1 hm with e | hm
        · rw [e]
        · obtain ⟨x, _, e⟩ := List.mem_map.1 hm; rw [← e]
    · intro t q1 q2 q3
      rw [a]
      by_cases e : t = T + 1
      · subst e; rw [← hms]; simp
      · exact List.mem_append_left _ (h.zero t q1 (by omega) q3)
    · intro t n q1 q2 q3 q4 q5
      rw [a]
      by_cases e : t = T + 1
      · subst e
        refine List.mem_append_right _ ?_
        rw [← hms]
        refine List.mem_cons_of_mem _ (List.mem_map.2 ⟨n, List.mem_filter.2 ⟨?_, by simpa using q5⟩, rfl⟩)
        rw [hde]; exact q4
      · exact List.mem_append_left _ (h.mems t n q1 (by omega) q3 q4 q5)
  · rename_i h2
    refine ⟨rfl, h.log, h.deals, by have := h.len; show s'.fly.length ≤ _; omega, h.kind, h.nofuse, h.up, ?_, ?_⟩
    · intro t q1 q2 q3
      by_cases e : t = T + 1
      · subst e; rw [hst] at h2; exact absurd q3 h2
      · exact h.zero t q1 (by omega) q3
    · intro t n q1 q2 q3 q4 q5
      by_cases e : t = T + 1
      · subst e; rw [hst] at h2; exact absurd q3 h2
      · exact h.mems t n q1 (by omega) q3 q4 q5
theorem asked_all {s : St} (hi : Inv s) (h3 : s.parts = 3) (p : Nat) : ∀ (n T : Nat) (s' : St), T + n ≤ 12 → Asked s s' p T → (s'.askFrom p n (T + 1)).2 = true ∧ Asked s (s'.askFrom p n (T + 1)).1 p (T + n)
  | 0, _, _, _, h => ⟨rfl, h⟩
  | n + 1, T, s', hT, h => by
    obtain ⟨a, b⟩ := asked_one hi h3 (by omega) h
    have e : s'.askFrom p (n + 1) (T + 1) = (if s'.state p (T + 1) = 2 then s'.does p (s'.asks p (T + 1)) else (s', true)).1.askFrom p n (T + 1 + 1) := by
      simp only [St.askFrom, andThen]
      rw [if_pos a]
    rw [e]
    have := asked_all hi h3 p n (T + 1) _ (by omega) b
    rw [show T + (n + 1) = T + 1 + n from by omega]
    exact this
theorem tick_asked {s : St} (hk : Ok s) (h3 : s.parts = 3) (hf : NoFuse s) (hfl : s.fly = []) (p : Nat) (hp : p ≠ 0) : Asked s (s.tick p).1 p s.deals.length := by
  have h0 : Asked s s p 0 := ⟨rfl, rfl, by rw [hfl]; simp, by rw [hfl]; simp, hf, rfl, fun t h1 h2 => by omega, fun t n h1 h2 => by omega⟩
  have := (asked_all hk.inv h3 p s.deals.length 0 s (by have := hk.inv.d12; omega) h0).2
  unfold St.tick
  rw [if_neg hp]
  have e : 0 + s.deals.length = s.deals.length := by omega
  rw [e] at this
  exact this

end Acc
