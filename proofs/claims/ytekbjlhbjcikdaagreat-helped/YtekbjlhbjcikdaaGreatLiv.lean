/-
  The plain part of NOBODY WAITS FOR EVER: all that is flying comes to an end.
-/
import Derived.Test.YtekbjlhbjcikdaaGreatCalm
namespace Acc

/-- What a message may still cause. -/
def wgt (m : Msg) : Nat := if m.kind = 1 ∨ m.kind = 6 then 2 else 1
def sumW (l : List Msg) : Nat := (l.map wgt).sum
/-- What a transaction that is begun may still cause. -/
def pot (s : St) : Nat → Nat
  | 0 => 0
  | t + 1 => pot s t + (if s.state 0 (t + 1) = 1 then 5 else 0)
def St.mass (s : St) : Nat := sumW s.fly + pot s s.deals.length

theorem sumW_append (a b : List Msg) : sumW (a ++ b) = sumW a + sumW b := by simp [sumW, List.sum_append]
theorem sumW_erase (l : List Msg) (i : Nat) (m : Msg) (h : l[i]? = some m) : sumW (l.eraseIdx i) + wgt m = sumW l := by
  induction l generalizing i with
  | nil => simp at h
  | cons x r ih =>
    cases i with
    | zero => simp at h; subst h; simp [sumW]; omega
    | succ i =>
      have := ih i (by simpa using h)
      simp only [List.eraseIdx_cons_succ, sumW, List.map_cons, List.sum_cons] at this ⊢
      omega
theorem sumW_send (s : St) (m : Msg) : sumW (s.send m).fly ≤ sumW s.fly + wgt m := by
  unfold St.send
  simp only
  split
  · rw [sumW_append]; simp [sumW]
  · omega
theorem pot_le (s : St) (T : Nat) : pot s T ≤ 5 * T := by
  induction T with
  | zero => simp [pot]
  | succ T ih => simp only [pot]; split <;> omega
theorem pot_congr (s s' : St) (T : Nat) (h : ∀ t, t ≤ T → s'.state 0 t = s.state 0 t) : pot s' T = pot s T := by
  induction T with
  | zero => rfl
  | succ T ih => simp only [pot]; rw [ih (fun t ht => h t (by omega)), h (T + 1) (by omega)]
/-- A transaction that was begun is begun no more. -/
theorem pot_drop (s s' : St) (T t0 : Nat) (h1 : 1 ≤ t0) (h2 : t0 ≤ T) (hb : s.state 0 t0 = 1) (ha : s'.state 0 t0 ≠ 1) (h : ∀ t, t ≠ t0 → s'.state 0 t = s.state 0 t) : pot s' T + 5 = pot s T := by
  induction T with
  | zero => omega
  | succ T ih =>
    simp only [pot]
    by_cases e : t0 = T + 1
    · subst e
      rw [if_pos hb, if_neg ha, pot_congr s s' T (fun t ht => h t (by omega))]
    · rw [h (T + 1) (by omega)]
      have := ih (by omega)
      omega

theorem state_write (s : St) (n t st n' t' : Nat) : (s.write n t st).state n' t' = if n' = n ∧ t = t' then st else s.state n' t' := by
  unfold St.state St.write
  simp only
  by_cases e : n' = n
  · subst e
    rw [if_pos rfl, stOf_snoc]
    by_cases e2 : t = t'
    · subst e2; simp
    · simp [e2]
  · rw [if_neg e, if_neg (fun h => e h.1)]
theorem sumW_tellTo (s : St) (kind t : Nat) (l : List Nat) (hk : kind ≠ 1 ∧ kind ≠ 6) : sumW (s.tellTo kind t l).fly ≤ sumW s.fly + l.length ∧ (∀ n t', (s.tellTo kind t l).state n t' = s.state n t') ∧ (s.tellTo kind t l).deals = s.deals := by
  induction l generalizing s with
  | nil => exact ⟨by simp [St.tellTo], fun _ _ => rfl, rfl⟩
  | cons m r ih =>
    obtain ⟨a, b, c⟩ := ih (s.send ⟨kind, 0, m, t⟩)
    refine ⟨?_, fun n t' => (b n t').trans rfl, c.trans rfl⟩
    have h1 := sumW_send s ⟨kind, 0, m, t⟩
    have h2 : wgt ⟨kind, 0, m, t⟩ = 1 := by unfold wgt; rw [if_neg (by simp only; omega)]
    simp only [St.tellTo, List.length_cons]
    omega
theorem members_five (ws : List Wr) : (members ws).length ≤ 5 := by
  have : ∀ n, (membersTo ws n).length ≤ n := by
    intro n
    induction n with
    | zero => simp [membersTo]
    | succ n ih => simp only [membersTo, List.length_append]; split <;> simp <;> omega
  exact this 5

/-- Each message that comes makes what is under way less. -/
theorem mass_deliver (s : St) (hi : Inv s) (i : Nat) (m : Msg) (hm : s.fly[i]? = some m) : (s.deliver i).mass < s.mass := by
  have hok := hi.msg m (List.mem_of_getElem? hm)
  have he := sumW_erase s.fly i m hm
  have hd : s.deliver i = ({ s with fly := s.fly.eraseIdx i } : St).receive m := by simp [St.deliver, hm]
  rw [hd]
  generalize hs1 : ({ s with fly := s.fly.eraseIdx i } : St) = s1
  have e1 : sumW s1.fly + wgt m = sumW s.fly := by rw [← hs1]; exact he
  have e2 : ∀ n t, s1.state n t = s.state n t := fun n t => by rw [← hs1]; rfl
  have e3 : s1.deals = s.deals := by rw [← hs1]
  have keep : ∀ s2 : St, s2.deals = s.deals → (∀ t, s2.state 0 t = s.state 0 t) → sumW s2.fly < sumW s.fly → s2.mass < s.mass := by
    intro s2 a b c
    unfold St.mass
    rw [a, pot_congr s s2 _ (fun t _ => b t)]
    omega
  have hw1 : 1 ≤ wgt m := by unfold wgt; split <;> omega
  obtain ⟨hn, hb⟩ := hok
  have hr := hi.rng m.trans hn
  have snd1 : ∀ (s2 : St) (x : Msg), wgt x = 1 → s2.deals = s.deals → (∀ t, s2.state 0 t = s.state 0 t) → sumW s2.fly ≤ sumW s1.fly → wgt m = 2 → (s2.send x).mass < s.mass := by
    intro s2 x hx a b c h2
    refine keep _ a b ?_
    have := sumW_send s2 x
    omega
  rcases hb with b | b | b | b | b | b
  · have h2 : wgt m = 2 := by unfold wgt; rw [if_pos (.inl b.1)]
    have hp := St.mem_pos b.2.2
    have hwr : ∀ st t, (s1.write m.to m.trans st).state 0 t = s.state 0 t := fun st t => by rw [state_write, if_neg (by omega)]; exact e2 0 t
    unfold St.receive
    rw [b.1]
    simp only [St.prepare, St.vote]
    have v1 : wgt ⟨3, m.to, m.frm, m.trans⟩ = 1 := by unfold wgt; simp
    have v2 : wgt ⟨2, m.to, m.frm, m.trans⟩ = 1 := by unfold wgt; simp
    split
    · split
      · exact snd1 _ _ v1 e3 (hwr 4) (Nat.le_refl _) h2
      · exact snd1 _ _ v2 e3 (hwr 2) (Nat.le_refl _) h2
    · split
      · exact snd1 _ _ v2 e3 (e2 0) (Nat.le_refl _) h2
      · split
        · exact snd1 _ _ v1 e3 (e2 0) (Nat.le_refl _) h2
        · exact keep _ e3 (e2 0) (by omega)
  · unfold St.receive
    rw [b.1]
    simp only [St.yes]
    split
    · rename_i h1
      rw [b.2.1] at h1
      split
      · unfold St.tell
        obtain ⟨q1, q2, q3⟩ := sumW_tellTo ((s1.note m.trans m.frm).write 0 m.trans 3) 4 m.trans (members (((s1.note m.trans m.frm).write 0 m.trans 3).deal m.trans)) (by omega)
        have q4 := members_five (((s1.note m.trans m.frm).write 0 m.trans 3).deal m.trans)
        have hst : ∀ t, ((s1.note m.trans m.frm).write 0 m.trans 3).state 0 t = if m.trans = t then 3 else s.state 0 t := fun t => by
          rw [state_write]
          by_cases e : m.trans = t
          · simp [e]
          · rw [if_neg (fun hh => e hh.2), if_neg e]; exact e2 0 t
        unfold St.mass
        rw [q3, show ((s1.note m.trans m.frm).write 0 m.trans 3).deals = s.deals from e3]
        have hp := pot_drop s (((s1.note m.trans m.frm).write 0 m.trans 3).tellTo 4 m.trans (members (((s1.note m.trans m.frm).write 0 m.trans 3).deal m.trans))) s.deals.length m.trans hr.1 hr.2 (by rw [← e2]; exact h1) (by rw [q2, hst, if_pos rfl]; omega) (fun t ht => by rw [q2, hst, if_neg (fun e => ht e.symm)])
        have hf : sumW ((s1.note m.trans m.frm).write 0 m.trans 3).fly = sumW s1.fly := rfl
        omega
      · exact keep _ e3 (e2 0) (by show sumW s1.fly < _; omega)
    · exact keep _ e3 (e2 0) (by omega)
  · unfold St.receive
    rw [b.1]
    simp only [St.no]
    split
    · rename_i h1
      rw [b.2.1] at h1
      unfold St.tell
      obtain ⟨q1, q2, q3⟩ := sumW_tellTo (s1.write 0 m.trans 4) 5 m.trans (members ((s1.write 0 m.trans 4).deal m.trans)) (by omega)
      have q4 := members_five ((s1.write 0 m.trans 4).deal m.trans)
      have hst : ∀ t, (s1.write 0 m.trans 4).state 0 t = if m.trans = t then 4 else s.state 0 t := fun t => by
        rw [state_write]
        by_cases e : m.trans = t
        · simp [e]
        · rw [if_neg (fun hh => e hh.2), if_neg e]; exact e2 0 t
      unfold St.mass
      rw [q3, show (s1.write 0 m.trans 4).deals = s.deals from e3]
      have hp := pot_drop s ((s1.write 0 m.trans 4).tellTo 5 m.trans (members ((s1.write 0 m.trans 4).deal m.trans))) s.deals.length m.trans hr.1 hr.2 (by rw [← e2]; exact h1) (by rw [q2, hst, if_pos rfl]; omega) (fun t ht => by rw [q2, hst, if_neg (fun e => ht e.symm)])
      have hf : sumW (s1.write 0 m.trans 4).fly = sumW s1.fly := rfl
      omega
    · exact keep _ e3 (e2 0) (by omega)
  · have hp := St.mem_pos b.2.1
    unfold St.receive
    rw [b.1]
    simp only [St.commit]
    split
    · exact keep _ e3 (fun t => by rw [state_write, if_neg (by omega)]; exact e2 0 t) (by show sumW s1.fly < _; omega)
    · exact keep _ e3 (e2 0) (by omega)
  · have hp := St.mem_pos b.2.1
    unfold St.receive
    rw [b.1]
    simp only [St.abort]
    split
    · exact keep _ e3 (fun t => by rw [state_write, if_neg (by omega)]; exact e2 0 t) (by show sumW s1.fly < _; omega)
    · exact keep _ e3 (e2 0) (by omega)
  · have h2 : wgt m = 2 := by unfold wgt; rw [if_pos (.inr b.1)]
    have v1 : wgt ⟨4, m.to, m.frm, m.trans⟩ = 1 := by unfold wgt; simp
    have v2 : wgt ⟨5, m.to, m.frm, m.trans⟩ = 1 := by unfold wgt; simp
    unfold St.receive
    rw [b.1]
    simp only [St.ask]
    split
    · exact snd1 _ _ v1 e3 (e2 0) (Nat.le_refl _) h2
    · split
      · exact snd1 _ _ v2 e3 (e2 0) (Nat.le_refl _) h2
      · split
        · rename_i h0
          exact snd1 _ _ v2 e3 (fun t => by rw [state_write, if_neg (by omega)]; exact e2 0 t) (Nat.le_refl _) h2
        · exact keep _ e3 (e2 0) (by omega)

theorem mass_le (s : St) (hi : Inv s) : s.mass ≤ 180 := by
  have h1 : sumW s.fly ≤ 2 * s.fly.length := by
    unfold sumW
    generalize s.fly = l
    induction l with
    | nil => simp
    | cons x r ih => simp only [List.map_cons, List.sum_cons, List.length_cons]; have : wgt x ≤ 2 := by unfold wgt; split <;> omega
                     omega
  have h2 := pot_le s s.deals.length
  have := hi.fl
  have := hi.d12
  unfold St.mass
  omega

end Acc
