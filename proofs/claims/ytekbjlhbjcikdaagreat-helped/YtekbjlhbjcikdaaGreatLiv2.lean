/-
  The plain part of NOBODY WAITS FOR EVER: who is in doubt and asks gets an answer.
-/
import Derived.Test.YtekbjlhbjcikdaaGreatLiv
namespace Acc

def NoFuse (s : St) : Prop := ∀ n, s.fuse n = none
theorem does_nofuse {s : St} (h : NoFuse s) (n : Nat) (l : List Deed) : (s.does n l).2 = true ∧ NoFuse (s.does n l).1 ∧ (s.does n l).1.up = s.up := by
  rw [does_calm s n l (h n)]
  exact ⟨rfl, fun i => by rw [(fold_fuse s n l).1]; exact h i, (fold_fuse s n l).2⟩
theorem msg_zero {s : St} {m : Msg} (hm : MsgOk s m) : m.kind = 2 ∨ m.kind = 3 → m.to = 0 := by
  intro hh
  rcases hm.2 with b | b | b | b | b | b
  · have := b.1; omega
  · exact b.2.1
  · exact b.2.1
  · have := b.1; omega
  · have := b.1; omega
  · have := b.1; omega
/-- The first message comes, where nobody has a fuse. -/
theorem first_comes {s : St} (hk : Ok s) (hf : NoFuse s) {m : Msg} {r : List Msg} (h : s.fly = m :: r) :
    (s.deliverP 0).2 = 0 ∧ (s.deliverP 0).1 = (if s.up m.to = true then (s.drop 0).receive m else s.drop 0) := by
  have h0 : s.fly[0]? = some m := by rw [h]; rfl
  unfold St.deliverP
  rw [if_pos (by rw [h]; simp)]
  refine ⟨rfl, ?_⟩
  simp only [St.dlv, Int.toNat_zero, h0]
  unfold St.come
  have hm := hk.inv.msg m (by rw [h]; simp)
  split
  · exact recv_fu (s.drop 0) hf m (msg_zero hm)
  · rfl
theorem receive_up (s : St) (m : Msg) : (s.receive m).up = s.up ∧ (s.receive m).fuse = s.fuse := by
  have tt : ∀ (s : St) (k t : Nat) (l : List Nat), (s.tellTo k t l).up = s.up ∧ (s.tellTo k t l).fuse = s.fuse := by
    intro s k t l
    induction l generalizing s with
    | nil => exact ⟨rfl, rfl⟩
    | cons x r ih => exact ih _
  unfold St.receive
  split
  · unfold St.prepare St.vote; split
    · split <;> exact ⟨rfl, rfl⟩
    · split
      · exact ⟨rfl, rfl⟩
      · split <;> exact ⟨rfl, rfl⟩
  · unfold St.yes; split
    · split
      · exact tt _ _ _ _
      · exact ⟨rfl, rfl⟩
    · exact ⟨rfl, rfl⟩
  · unfold St.no; split
    · exact tt _ _ _ _
    · exact ⟨rfl, rfl⟩
  · unfold St.commit; split <;> exact ⟨rfl, rfl⟩
  · unfold St.abort; split <;> exact ⟨rfl, rfl⟩
  · unfold St.ask; split
    · exact ⟨rfl, rfl⟩
    · split
      · exact ⟨rfl, rfl⟩
      · split <;> exact ⟨rfl, rfl⟩
  · exact ⟨rfl, rfl⟩
theorem first_up {s : St} (hk : Ok s) (hf : NoFuse s) {m : Msg} {r : List Msg} (h : s.fly = m :: r) : (s.deliverP 0).1.up = s.up ∧ NoFuse (s.deliverP 0).1 := by
  rw [(first_comes hk hf h).2]
  split
  · have := receive_up (s.drop 0) m
    exact ⟨this.1, fun n => by rw [this.2]; exact hf n⟩
  · exact ⟨rfl, hf⟩
theorem first_mass {s : St} (hk : Ok s) (hf : NoFuse s) (h : s.fly ≠ []) : (s.deliverP 0).1.mass < s.mass := by
  cases hfl : s.fly with
  | nil => exact absurd hfl h
  | cons m r =>
    have h0 : s.fly[0]? = some m := by rw [hfl]; rfl
    rw [(first_comes hk hf hfl).2]
    split
    · have := mass_deliver s hk.inv 0 m h0
      have e : s.deliver 0 = (s.drop 0).receive m := by simp [St.deliver, h0, St.drop]
      rw [← e]; exact this
    · have he := sumW_erase s.fly 0 m h0
      have hw : 1 ≤ wgt m := by unfold wgt; split <;> omega
      unfold St.mass
      have e1 : pot (s.drop 0) (s.drop 0).deals.length = pot s s.deals.length := pot_congr s (s.drop 0) _ (fun _ _ => rfl)
      have e2 : sumW (s.drop 0).fly = sumW (s.fly.eraseIdx 0) := rfl
      omega

/-- The coordinator has decided all that it has begun. -/
def Settled (s : St) : Prop := ∀ t, s.state 0 t ≠ 1
theorem settled_receive {s : St} (h : Settled s) (m : Msg) (hm : MsgOk s m) (_hi : Inv s) : Settled (s.receive m) := by
  intro t
  have wr : ∀ n t' st, n ≠ 0 → (s.write n t' st).state 0 t ≠ 1 := fun n t' st hn => by rw [state_write, if_neg (fun e => hn e.1.symm)]; exact h t
  have sd : ∀ (s' : St) x, (s'.send x).state 0 t = s'.state 0 t := fun _ _ => rfl
  obtain ⟨_, b⟩ := hm
  rcases b with b | b | b | b | b | b
  · have hp : m.to ≠ 0 := by have := St.mem_pos b.2.2; omega
    unfold St.receive; rw [b.1]
    simp only [St.prepare, St.vote]
    split
    · split
      · rw [sd]; exact wr _ _ _ hp
      · rw [sd]; exact wr _ _ _ hp
    · split
      · exact h t
      · split <;> exact h t
  · unfold St.receive; rw [b.1]
    simp only [St.yes]
    rw [if_neg (by rw [b.2.1]; exact h m.trans)]; exact h t
  · unfold St.receive; rw [b.1]
    simp only [St.no]
    rw [if_neg (by rw [b.2.1]; exact h m.trans)]; exact h t
  · have hp : m.to ≠ 0 := by have := St.mem_pos b.2.1; omega
    unfold St.receive; rw [b.1]
    simp only [St.commit]
    split
    · exact wr _ _ _ hp
    · exact h t
  · have hp : m.to ≠ 0 := by have := St.mem_pos b.2.1; omega
    unfold St.receive; rw [b.1]
    simp only [St.abort]
    split
    · exact wr _ _ _ hp
    · exact h t
  · unfold St.receive; rw [b.1]
    simp only [St.ask]
    split
    · exact h t
    · split
      · exact h t
      · split
        · rename_i h0; rw [sd]; exact wr _ _ _ h0.2
        · exact h t
theorem settled_first {s : St} (hk : Ok s) (hf : NoFuse s) (h : Settled s) (hn : s.fly ≠ []) : Settled (s.deliverP 0).1 := by
  cases hfl : s.fly with
  | nil => exact absurd hfl hn
  | cons m r =>
    rw [(first_comes hk hf hfl).2]
    split
    · exact settled_receive (s := s.drop 0) h m (((same_drop s 0).msg m).2 (hk.inv.msg m (by rw [hfl]; simp))) (hk.inv.drop 0)
    · exact h

/-- Nothing but answers and questions is flying. -/
def Late (s : St) : Prop := ∀ m, m ∈ s.fly → m.kind = 4 ∨ m.kind = 5 ∨ m.kind = 6
/-- A node that will answer. -/
def Answers (s : St) (n t : Nat) : Prop := s.up n = true ∧ (s.state n t = 3 ∨ s.state n t = 4 ∨ (s.state n t = 0 ∧ n ≠ 0))

structure LateStep (s s2 : St) (m : Msg) (r : List Msg) : Prop where
  up : s2.up = s.up
  late : Late s2
  keep : ∀ n t, ¬ (n = m.to ∧ t = m.trans) → s2.state n t = s.state n t
  turn : s2.state m.to m.trans = s.state m.to m.trans ∨ (s.state m.to m.trans = 2 ∧ (s2.state m.to m.trans = 3 ∨ s2.state m.to m.trans = 4)) ∨ (s.state m.to m.trans = 0 ∧ m.to ≠ 0 ∧ s2.state m.to m.trans = 4)
  rest : ∀ x, x ∈ r → x ∈ s2.fly
  ans : m.kind = 6 → Answers s m.to m.trans → ∃ x, x ∈ s2.fly ∧ (x.kind = 4 ∨ x.kind = 5) ∧ x.to = m.frm ∧ x.trans = m.trans
  got : m.kind ≠ 6 → s.up m.to = true → s.state m.to m.trans = 2 → s2.state m.to m.trans ≠ 2

theorem send_room (s : St) (x : Msg) (h : s.fly.length < 60) : (s.send x).fly = s.fly ++ [x] := by unfold St.send; simp only; rw [if_pos h]
theorem late_step {s : St} (hk : Ok s) (hf : NoFuse s) (hl : Late s) {m : Msg} {r : List Msg} (h : s.fly = m :: r) : LateStep s (s.deliverP 0).1 m r := by
  have hm := hk.inv.msg m (by rw [h]; simp)
  have hlm := hl m (by rw [h]; simp)
  have hd : (s.drop 0).fly = r := by unfold St.drop; simp only; rw [h]; rfl
  have hlr : ∀ x, x ∈ r → x.kind = 4 ∨ x.kind = 5 ∨ x.kind = 6 := fun x hx => hl x (by rw [h]; simp [hx])
  have hr60 : (s.drop 0).fly.length < 60 := by rw [hd]; have := hk.inv.fl; rw [h] at this; simp at this; omega
  have hst : ∀ n t, (s.drop 0).state n t = s.state n t := fun _ _ => rfl
  rw [(first_comes hk hf h).2]
  split
  · rename_i hup
    have plain : ∀ s2 : St, s2 = s.drop 0 → s.state m.to m.trans ≠ 2 ∨ m.kind = 6 → (m.kind = 6 → ¬ Answers s m.to m.trans) → LateStep s s2 m r := by
      rintro s2 rfl h2 h6
      refine ⟨rfl, fun x hx => hlr x (by rw [hd] at hx; exact hx), fun _ _ _ => rfl, .inl rfl, fun x hx => by rw [hd]; exact hx, fun e a => absurd a (h6 e), fun e _ h22 => ?_⟩
      rcases h2 with h2 | h2
      · exact absurd h22 h2
      · exact absurd h2 e
    have wrt : ∀ st, (st = 3 ∨ st = 4) → (s.state m.to m.trans = 2 ∨ (s.state m.to m.trans = 0 ∧ m.to ≠ 0 ∧ st = 4)) → m.kind ≠ 6 → LateStep s ((s.drop 0).write m.to m.trans st) m r := by
      intro st hs ho hne
      have e1 : ((s.drop 0).write m.to m.trans st).state m.to m.trans = st := by rw [state_write, if_pos ⟨rfl, rfl⟩]
      refine ⟨rfl, fun x hx => hlr x (by rw [← hd]; exact hx), fun n t hnt => by rw [state_write, if_neg (fun e => hnt ⟨e.1, e.2.symm⟩)]; exact hst n t, ?_, fun x hx => by show x ∈ (s.drop 0).fly; rw [hd]; exact hx, fun e _ => absurd e hne, fun _ _ _ => by rw [e1]; omega⟩
      rw [e1]
      rcases ho with ho | ⟨o1, o2, o3⟩
      · exact .inr (.inl ⟨ho, hs⟩)
      · exact .inr (.inr ⟨o1, o2, o3⟩)
    have snd : ∀ k, (k = 4 ∨ k = 5) → m.kind = 6 → LateStep s ((s.drop 0).send ⟨k, m.to, m.frm, m.trans⟩) m r := by
      intro k hk2 h6
      have hfl := send_room (s.drop 0) ⟨k, m.to, m.frm, m.trans⟩ hr60
      rw [hd] at hfl
      refine ⟨rfl, fun x hx => ?_, fun _ _ _ => rfl, .inl rfl, fun x hx => by rw [hfl]; simp [hx], fun _ _ => ⟨⟨k, m.to, m.frm, m.trans⟩, by rw [hfl]; simp, hk2, rfl, rfl⟩, fun e => absurd h6 e⟩
      rw [hfl] at hx
      rcases List.mem_append.1 hx with hx | hx
      · exact hlr x hx
      · simp at hx; subst hx; simp only; omega
    unfold St.receive
    rcases hlm with e | e | e
    · rw [e]
      simp only [St.commit]
      split
      · rename_i h2; exact wrt 3 (.inl rfl) (.inl h2) (by omega)
      · rename_i h2; exact plain _ rfl (.inl h2) (fun e6 => by omega)
    · have hp : m.to ≠ 0 := by
        rcases hm.2 with b | b | b | b | b | b
        · have := b.1; omega
        · have := b.1; omega
        · have := b.1; omega
        · have := b.1; omega
        · have := St.mem_pos b.2.1; omega
        · have := b.1; omega
      rw [e]
      simp only [St.abort]
      split
      · rename_i h2
        rcases h2 with h2 | h2
        · exact wrt 4 (.inr rfl) (.inl h2) (by omega)
        · exact wrt 4 (.inr rfl) (.inr ⟨h2, hp, rfl⟩) (by omega)
      · rename_i h2; exact plain _ rfl (.inl (fun e2 => h2 (.inl e2))) (fun e6 => by omega)
    · rw [e]
      simp only [St.ask]
      split
      · exact snd 4 (.inl rfl) e
      · split
        · exact snd 5 (.inr rfl) e
        · split
          · rename_i h0
            have hfl : (((s.drop 0).write m.to m.trans 4).send ⟨5, m.to, m.frm, m.trans⟩).fly = r ++ [⟨5, m.to, m.frm, m.trans⟩] := by
              rw [send_room _ _ (by exact hr60)]; show (s.drop 0).fly ++ _ = _; rw [hd]
            have e1 : (((s.drop 0).write m.to m.trans 4).send ⟨5, m.to, m.frm, m.trans⟩).state m.to m.trans = 4 := by show ((s.drop 0).write m.to m.trans 4).state m.to m.trans = 4; rw [state_write, if_pos ⟨rfl, rfl⟩]
            refine ⟨rfl, fun x hx => ?_, fun n t hnt => by show ((s.drop 0).write m.to m.trans 4).state n t = _; rw [state_write, if_neg (fun e => hnt ⟨e.1, e.2.symm⟩)]; exact hst n t, .inr (.inr ⟨h0.1, h0.2, e1⟩), fun x hx => by rw [hfl]; simp [hx], fun _ _ => ⟨⟨5, m.to, m.frm, m.trans⟩, by rw [hfl]; simp, .inr rfl, rfl, rfl⟩, fun e6 => absurd e e6⟩
            rw [hfl] at hx
            rcases List.mem_append.1 hx with hx | hx
            · exact hlr x hx
            · simp at hx; subst hx; simp
          · rename_i h3 h4 h0
            exact plain _ rfl (.inr e) (fun _ a => by
              rcases a.2 with a | a | a
              · exact h3 a
              · exact h4 a
              · exact h0 a)
  · rename_i hup
    refine ⟨rfl, fun x hx => hlr x (by rw [hd] at hx; exact hx), fun _ _ _ => rfl, .inl rfl, fun x hx => by rw [hd]; exact hx, fun _ a => absurd a.1 hup, fun _ e => absurd e hup⟩

/-- Part p waits for an answer wherever it is in doubt of one of these transactions. -/
def Waits (p : Nat) (X : Nat → Prop) (s : St) : Prop := ∀ t, X t → s.state p t = 2 →
  (∃ n, Answers s n t ∧ n ≠ p ∧ (⟨6, p, n, t⟩ : Msg) ∈ s.fly) ∨ ∃ x, x ∈ s.fly ∧ (x.kind = 4 ∨ x.kind = 5) ∧ x.to = p ∧ x.trans = t

theorem waits_step {s : St} (hk : Ok s) (hf : NoFuse s) (hl : Late s) {p : Nat} {X : Nat → Prop} (hp : s.up p = true) (hw : Waits p X s) {m : Msg} {r : List Msg} (h : s.fly = m :: r) : Waits p X (s.deliverP 0).1 := by
  have L := late_step hk hf hl h
  generalize (s.deliverP 0).1 = s2 at L
  intro t hX h2
  have hs2 : s.state p t = 2 := by
    by_cases e : p = m.to ∧ t = m.trans
    · obtain ⟨e1, e2⟩ := e
      subst e1 e2
      rcases L.turn with q | q | q
      · rw [← q]; exact h2
      · exact q.1
      · rw [q.2.2] at h2; omega
    · rw [← L.keep p t e]; exact h2
  have ansK : ∀ n, n ≠ p → Answers s n t → Answers s2 n t := by
    intro n hnp a
    refine ⟨by rw [L.up]; exact a.1, ?_⟩
    by_cases e : n = m.to ∧ t = m.trans
    · obtain ⟨e1, e2⟩ := e
      subst e1 e2
      rcases L.turn with q | q | q
      · rw [q]; exact a.2
      · rcases a.2 with a | a | a <;> omega
      · exact .inr (.inl q.2.2)
    · rw [L.keep n t e]; exact a.2
  rcases hw t hX hs2 with ⟨n, ha, hnp, hin⟩ | ⟨x, hx, hxk, hxt, hxr⟩
  · rw [h] at hin
    rcases List.mem_cons.1 hin with e | hin
    · subst e
      obtain ⟨x, hx, hxk, hxt, hxr⟩ := L.ans rfl ha
      exact .inr ⟨x, hx, hxk, hxt, hxr⟩
    · exact .inl ⟨n, ansK n hnp ha, hnp, L.rest _ hin⟩
  · rw [h] at hx
    rcases List.mem_cons.1 hx with e | hx
    · subst e
      have hne : x.kind ≠ 6 := by omega
      have := L.got hne (by rw [hxt]; exact hp) (by rw [hxt, hxr]; exact hs2)
      rw [hxt, hxr] at this
      exact absurd h2 this
    · exact .inr ⟨x, L.rest _ hx, hxk, hxt, hxr⟩
theorem done_step {s : St} (hk : Ok s) (hf : NoFuse s) (hl : Late s) {q t : Nat} (hq : s.state q t ≠ 2) {m : Msg} {r : List Msg} (h : s.fly = m :: r) : (s.deliverP 0).1.state q t ≠ 2 := by
  have L := late_step hk hf hl h
  generalize (s.deliverP 0).1 = s2 at L
  by_cases e : q = m.to ∧ t = m.trans
  · obtain ⟨e1, e2⟩ := e
    subst e1 e2
    rcases L.turn with c | c | c
    · rw [c]; exact hq
    · exact absurd c.1 hq
    · rw [c.2.2]; omega
  · rw [L.keep q t e]; exact hq

end Acc
