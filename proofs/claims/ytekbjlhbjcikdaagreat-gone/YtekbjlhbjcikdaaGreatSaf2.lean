/-
  What holds of a world at any time is kept by all that a node does, as far as its fuse lets it.
-/
import Derived.Test.YtekbjlhbjcikdaaGreatSaf
namespace Acc

/-- Nothing that the promise speaks of has turned but what is flying, who is up, the fuses and the votes. -/
structure Same (s s' : St) : Prop where
  parts : s'.parts = s.parts
  log : s'.log = s.log
  deals : s'.deals = s.deals
theorem Same.h {s s' : St} (e : Same s s') (n t : Nat) : s'.h n t = s.h n t := by unfold St.h; rw [e.log]
theorem Same.deal {s s' : St} (e : Same s s') (t : Nat) : s'.deal t = s.deal t := by unfold St.deal; rw [e.deals]
theorem Same.mem {s s' : St} (e : Same s s') (t n : Nat) : s'.mem t n ↔ s.mem t n := by unfold St.mem; rw [e.deal]
theorem Same.dead {s s' : St} (e : Same s s') (t : Nat) : s'.dead t ↔ s.dead t := by
  unfold St.dead; simp only [e.h, e.mem]
theorem Same.msg {s s' : St} (e : Same s s') (m : Msg) : MsgOk s' m ↔ MsgOk s m := by
  unfold MsgOk; simp only [e.h, e.mem, e.dead]
theorem Same.wr {s s' : St} (e : Same s s') (n t st : Nat) : WrOk s' n t st ↔ WrOk s n t st := by
  unfold WrOk; simp only [e.h, e.mem, e.dead, e.deals, e.deal]
theorem Same.trans {a b c : St} (h : Same a b) (k : Same b c) : Same a c := ⟨k.parts.trans h.parts, k.log.trans h.log, k.deals.trans h.deals⟩
theorem Same.rfl' (s : St) : Same s s := ⟨rfl, rfl, rfl⟩

theorem Inv.same {s s' : St} (hi : Inv s) (e : Same s s') (fl : s'.fly.length ≤ 60) (fb : ∀ n k, s'.fuse n = some k → k < 9223372036854775808)
    (msg : ∀ m, m ∈ s'.fly → MsgOk s m) (ntd : ∀ t m, s'.noted t m = true → Prep (s.h m t)) : Inv s' where
  p1 := e.parts ▸ hi.p1
  p5 := e.parts ▸ hi.p5
  d12 := e.deals ▸ hi.d12
  dl := e.deals ▸ hi.dl
  dp := by rw [e.deals, e.parts]; exact hi.dp
  fl := fl
  fb := fb
  law := fun n t => by rw [e.h]; exact hi.law n t
  rng := fun t h => by rw [e.h] at h; rw [e.deals]; exact hi.rng t h
  nmb := fun n t h1 h => by rw [e.h] at h ⊢; rw [e.mem]; exact hi.nmb n t h1 h
  msg := fun m hm => (e.msg m).2 (msg m hm)
  ntd := fun t m h => by rw [e.h]; exact ntd t m h
  com := fun n t h1 h => by rw [e.h] at h ⊢; exact hi.com n t h1 h
  abt := fun n t h1 h => by rw [e.h] at h; rw [e.dead]; exact hi.abt n t h1 h
  cmt := fun t h m hm => by rw [e.h] at h ⊢; exact hi.cmt t h m ((e.mem t m).1 hm)
  exc := fun p t t' k hp h1 h2 f1 f2 => by rw [e.h] at h1 h2; rw [e.deal] at f1 f2; exact hi.exc p t t' k hp h1 h2 f1 f2

theorem same_send (s : St) (m : Msg) : Same s (s.send m) := ⟨rfl, rfl, rfl⟩
theorem same_down (s : St) (n : Nat) : Same s (s.down n) := ⟨rfl, rfl, rfl⟩
theorem same_burn (s : St) (n : Nat) : Same s (s.burn n) := ⟨rfl, rfl, rfl⟩
theorem same_note (s : St) (t m : Nat) : Same s (s.note t m) := ⟨rfl, rfl, rfl⟩
theorem same_drop (s : St) (i : Nat) : Same s (s.drop i) := ⟨rfl, rfl, rfl⟩
theorem same_rise (s : St) (n : Nat) : Same s (s.rise n) := ⟨rfl, rfl, rfl⟩
theorem same_fused (s : St) (n k : Nat) : Same s (s.fused n k) := ⟨rfl, rfl, rfl⟩

theorem Inv.send {s : St} (hi : Inv s) (m : Msg) (hm : MsgOk s m) : Inv (s.send m) := by
  refine hi.same (same_send s m) ?_ hi.fb ?_ hi.ntd
  · simp only [St.send]; split
    · simp; omega
    · exact hi.fl
  · intro x hx
    simp only [St.send] at hx
    split at hx
    · rcases List.mem_append.1 hx with hx | hx
      · exact hi.msg x hx
      · simp at hx; subst hx; exact hm
    · exact hi.msg x hx
theorem Inv.down {s : St} (hi : Inv s) (n : Nat) : Inv (s.down n) := by
  refine hi.same (same_down s n) hi.fl ?_ hi.msg ?_
  · intro i k h
    simp only [St.down] at h
    split at h
    · cases h
    · exact hi.fb i k h
  · intro t m h
    simp only [St.down] at h
    split at h
    · cases h
    · exact hi.ntd t m h
theorem Inv.burn {s : St} (hi : Inv s) (n : Nat) : Inv (s.burn n) := by
  refine hi.same (same_burn s n) hi.fl ?_ hi.msg hi.ntd
  intro i k h
  simp only [St.burn] at h
  split at h
  · cases hf : s.fuse n with
    | none => rw [hf] at h; cases h
    | some j => rw [hf] at h; simp at h; have := hi.fb n j hf; omega
  · exact hi.fb i k h
theorem Inv.note {s : St} (hi : Inv s) (t m : Nat) (h : Prep (s.h m t)) : Inv (s.note t m) := by
  refine hi.same (same_note s t m) hi.fl hi.fb hi.msg ?_
  intro a b hab
  simp only [St.note] at hab
  split at hab
  · rename_i e; rw [e.1, e.2]; exact h
  · exact hi.ntd a b hab
theorem Inv.drop {s : St} (hi : Inv s) (i : Nat) : Inv (s.drop i) := by
  refine hi.same (same_drop s i) ?_ hi.fb ?_ hi.ntd
  · exact Nat.le_trans (List.length_eraseIdx_le _ _) hi.fl
  · exact fun m hm => hi.msg m (List.mem_of_mem_eraseIdx hm)
theorem Inv.rise {s : St} (hi : Inv s) (n : Nat) : Inv (s.rise n) := hi.same (same_rise s n) hi.fl hi.fb hi.msg hi.ntd
theorem Inv.fused {s : St} (hi : Inv s) (n k : Nat) (hk : k < 9223372036854775808) : Inv (s.fused n k) := by
  refine hi.same (same_fused s n k) hi.fl ?_ hi.msg hi.ntd
  intro i j h
  simp only [St.fused] at h
  split at h
  · injection h with h; omega
  · exact hi.fb i j h

/-- Messages are sent, as far as the fuse lets it. -/
theorem Inv.sends {s : St} (hi : Inv s) (n : Nat) (ms : List Msg) (h : ∀ m, m ∈ ms → MsgOk s m) : Inv (s.does n (ms.map .snd)).1 ∧ Same s (s.does n (ms.map .snd)).1 := by
  induction ms generalizing s with
  | nil => exact ⟨hi, Same.rfl' s⟩
  | cons m r ih =>
    simp only [List.map_cons, St.does]
    split
    · exact ⟨hi.down n, same_down s n⟩
    · have e : Same s ((s.burn n).send m) := (same_burn s n).trans (same_send _ m)
      have hb := (hi.burn n).send m (((same_burn s n).msg m).2 (h m (by simp)))
      have := ih hb (fun x hx => (e.msg x).2 (h x (by simp [hx])))
      exact ⟨this.1, e.trans this.2⟩
/-- A record is written, and messages are sent behind it. -/
theorem Inv.wrote {s : St} (hi : Inv s) (n t st : Nat) (ms : List Msg) (hw : WrOk s n t st) (h : ∀ m, m ∈ ms → MsgOk (s.write n t st) m) :
    Inv (s.does n (.wrt t st :: ms.map .snd)).1 ∧ (Same s (s.does n (.wrt t st :: ms.map .snd)).1 ∨ Same (s.write n t st) (s.does n (.wrt t st :: ms.map .snd)).1) := by
  simp only [St.does]
  split
  · exact ⟨hi.down n, .inl (same_down s n)⟩
  · have hb := (hi.burn n).write (((same_burn s n).wr n t st).2 hw)
    have e : Same (s.write n t st) ((s.burn n).write n t st) := ⟨rfl, rfl, rfl⟩
    have := hb.sends n ms (fun m hm => (e.msg m).2 (h m hm))
    exact ⟨this.1, .inr (e.trans this.2)⟩

theorem all_eq (s : St) (t st kind : Nat) : s.all t st kind = .wrt t st :: ((members (s.deal t)).map fun m => (⟨kind, 0, m, t⟩ : Msg)).map .snd := by
  unfold St.all; rw [List.map_map]; rfl
theorem asks_eq (s : St) (p t : Nat) : s.asks p t = (⟨6, p, 0, t⟩ :: ((members (s.deal t)).filter fun m => m != p).map fun m => (⟨6, p, m, t⟩ : Msg)).map .snd := by
  unfold St.asks; rw [List.map_cons, List.map_map]; rfl

/-- The coordinator begins a transaction. -/
theorem Inv.begun {s : St} (hi : Inv s) (t : Nat) (h0 : s.h 0 t = []) (h1 : 1 ≤ t) (h2 : t ≤ s.deals.length) : Inv (s.does 0 (s.all t 1 1)).1 := by
  rw [all_eq]
  refine (hi.wrote 0 t 1 _ (.inl ⟨rfl, rfl, h0, h1, h2⟩) ?_).1
  intro m hm
  obtain ⟨x, hx, rfl⟩ := List.mem_map.1 hm
  refine ⟨?_, .inl ⟨rfl, rfl, hx⟩⟩
  rw [h_write, if_pos ⟨rfl, rfl⟩]; simp
/-- The coordinator commits. -/
theorem Inv.committed {s : St} (hi : Inv s) (t : Nat) (h0 : s.h 0 t = [1]) (h1 : ∀ m, s.mem t m → Prep (s.h m t)) : Inv (s.does 0 (s.all t 3 4)).1 := by
  rw [all_eq]
  refine (hi.wrote 0 t 3 _ (.inr (.inl ⟨rfl, rfl, h0, h1⟩)) ?_).1
  intro m hm
  obtain ⟨x, hx, rfl⟩ := List.mem_map.1 hm
  have e : (s.write 0 t 3).h 0 t = [1, 3] := by rw [h_write, if_pos ⟨rfl, rfl⟩, h0]; rfl
  exact ⟨by rw [e]; simp, .inr (.inr (.inr (.inl ⟨rfl, hx, .inl rfl, e⟩)))⟩
/-- The coordinator gives up. -/
theorem Inv.aborted {s : St} (hi : Inv s) (t : Nat) (h0 : s.h 0 t = [1]) : Inv (s.does 0 (s.all t 4 5)).1 := by
  rw [all_eq]
  refine (hi.wrote 0 t 4 _ (.inr (.inr (.inl ⟨rfl, rfl, h0⟩))) ?_).1
  intro m hm
  obtain ⟨x, hx, rfl⟩ := List.mem_map.1 hm
  have e : (s.write 0 t 4).h 0 t = [1, 4] := by rw [h_write, if_pos ⟨rfl, rfl⟩, h0]; rfl
  exact ⟨by rw [e]; simp, .inr (.inr (.inr (.inr (.inl ⟨rfl, hx, .inl rfl, .inl e⟩))))⟩

/-- No holder: nobody is prepared there and writes the key. -/
theorem holdFrom_zero (s : St) (p : Nat) (k : Int) (n t : Nat) (h : holdFrom s p k n t = 0) (ht : 1 ≤ t) : ∀ t', t ≤ t' → t' < t + n → s.holds p k t' = false := by
  induction n generalizing t with
  | zero => intro t' h1 h2; omega
  | succ n ih =>
    simp only [holdFrom] at h
    split at h
    · omega
    · rename_i hn
      intro t' h1 h2
      by_cases e : t' = t
      · subst e; simpa using hn
      · exact ih (t + 1) h (by omega) t' (by omega) (by omega)
theorem clashTo_false (s : St) (p t : Nat) (n : Nat) (h : clashTo s p t n = false) : ∀ k : Nat, k < n → (findW (s.deal t) p k).isSome = true → s.holder p k = 0 := by
  induction n with
  | zero => intro k hk; omega
  | succ n ih =>
    simp only [clashTo, Bool.or_eq_false_iff] at h
    intro k hk hf
    by_cases e : k = n
    · subst e
      have := h.2
      rw [hf] at this
      simpa using this
    · exact ih h.1 k (by omega) hf
theorem findW_some (ws : List Wr) (p k : Int) (h : (findW ws p k).isSome = true) : ∃ x, x ∈ ws ∧ x.part = p ∧ x.key = k := by
  induction ws with
  | nil => simp [findW] at h
  | cons x r ih =>
    simp only [findW] at h
    split at h
    · rename_i e; exact ⟨x, by simp, e.1, e.2⟩
    · obtain ⟨y, hy, e⟩ := ih h; exact ⟨y, by simp [hy], e⟩

/-- The keys of the writes are keys. -/
def Keys (s : St) : Prop := ∀ ws, ws ∈ s.deals → ∀ x, x ∈ ws → 0 ≤ x.key ∧ x.key < 4
theorem deal_in {s : St} {t : Nat} {x : Wr} (h : x ∈ s.deal t) : ∃ ws, ws ∈ s.deals ∧ x ∈ ws := by
  unfold St.deal at h
  rw [List.getD_eq_getElem?_getD] at h
  cases hd : s.deals[t - 1]? with
  | none => rw [hd] at h; simp at h
  | some ws => rw [hd] at h; exact ⟨ws, List.mem_of_getElem? hd, h⟩

theorem Inv.noclash {s : St} (hi : Inv s) (hk : Keys s) (p t : Nat) (hp : 1 ≤ p) (hc : s.clashes p t = false) :
    ∀ t' k, s.h p t' = [2] → (findW (s.deal t) p k).isSome = true → (findW (s.deal t') p k).isSome = true → False := by
  intro t' k h2 f1 f2
  obtain ⟨x, hx, e1, e2⟩ := findW_some _ _ _ f1
  obtain ⟨ws, hws, hxw⟩ := deal_in hx
  have hkk := hk ws hws x hxw
  obtain ⟨j, hj⟩ : ∃ j : Nat, k = j := ⟨k.toNat, by omega⟩
  subst hj
  have h0 := clashTo_false s p t 4 hc j (by omega) f1
  have hr := hi.rng t' (hi.nmb p t' hp (by rw [h2]; simp)).2
  have := holdFrom_zero s p j s.deals.length 1 h0 (by omega) t' hr.1 (by omega)
  rw [St.holds, f2, (hi.h2).2 h2] at this
  simp at this

theorem Inv.vote {s : St} (hi : Inv s) (hk : Keys s) (m : Msg) (hm : MsgOk s m) (h1 : m.kind = 1) : Inv (s.does m.to (s.asked m)).1 := by
  obtain ⟨hn, hb⟩ := hm
  have hb : m.frm = 0 ∧ s.mem m.trans m.to := by
    rcases hb with b | b | b | b | b | b <;> first | exact b.2 | (have := b.1; omega)
  obtain ⟨hf, hmem⟩ := hb
  have hp := St.mem_pos hmem
  unfold St.asked
  split
  · rename_i h0
    have h0 := (hi.h0).1 h0
    split
    · have hw : WrOk s m.to m.trans 4 := .inr (.inr (.inr (.inr (.inl ⟨hmem, rfl, h0, hn⟩))))
      refine (hi.wrote m.to m.trans 4 [⟨3, m.to, m.frm, m.trans⟩] hw ?_).1
      intro x hx
      simp at hx
      subst hx
      have e : (s.write m.to m.trans 4).h m.to m.trans = [4] := by rw [h_write, if_pos ⟨rfl, rfl⟩, h0]; rfl
      exact ⟨WrOk.ne_keep hn, .inr (.inr (.inl ⟨rfl, hf, hmem, .inr ⟨m.to, hmem, e⟩⟩))⟩
    · rename_i hc
      have hw : WrOk s m.to m.trans 2 := .inr (.inr (.inr (.inl ⟨hmem, rfl, h0, hn, hi.noclash hk m.to m.trans hp (by simpa using hc)⟩)))
      refine (hi.wrote m.to m.trans 2 [⟨2, m.to, m.frm, m.trans⟩] hw ?_).1
      intro x hx
      simp at hx
      subst hx
      have e : (s.write m.to m.trans 2).h m.to m.trans = [2] := by rw [h_write, if_pos ⟨rfl, rfl⟩, h0]; rfl
      exact ⟨WrOk.ne_keep hn, .inr (.inl ⟨rfl, hf, hmem, .inl e⟩)⟩
  · split
    · rename_i h2
      refine (hi.sends m.to [⟨2, m.to, m.frm, m.trans⟩] ?_).1
      intro x hx
      simp at hx
      subst hx
      exact ⟨hn, .inr (.inl ⟨rfl, hf, hmem, .inl ((hi.h2).1 h2)⟩)⟩
    · split
      · rename_i h4
        refine (hi.sends m.to [⟨3, m.to, m.frm, m.trans⟩] ?_).1
        intro x hx
        simp at hx
        subst hx
        refine ⟨hn, .inr (.inr (.inl ⟨rfl, hf, hmem, ?_⟩))⟩
        rcases (hi.h4).1 h4 with q | q
        · omega
        · rcases q.2 with q | q
          · exact hi.abt m.to m.trans hp q
          · exact .inr ⟨m.to, hmem, q⟩
      · exact hi

theorem Inv.doubt {s : St} (hi : Inv s) (m : Msg) (hm : MsgOk s m) (h1 : m.kind = 6) : Inv (s.does m.to (s.doubted m)).1 := by
  obtain ⟨hn, hb⟩ := hm
  have hb : s.mem m.trans m.frm ∧ (m.to = 0 ∨ s.mem m.trans m.to) := by
    rcases hb with b | b | b | b | b | b <;> first | exact b.2 | (have := b.1; omega)
  obtain ⟨hf, ht⟩ := hb
  unfold St.doubted
  split
  · rename_i h3
    refine (hi.sends m.to [⟨4, m.to, m.frm, m.trans⟩] ?_).1
    intro x hx
    simp at hx
    subst hx
    refine ⟨hn, .inr (.inr (.inr (.inl ⟨rfl, hf, ht, ?_⟩)))⟩
    rcases (hi.h3).1 h3 with q | q
    · rw [← q.1]; exact q.2
    · exact hi.com m.to m.trans (by omega) q.2
  · split
    · rename_i h4
      refine (hi.sends m.to [⟨5, m.to, m.frm, m.trans⟩] ?_).1
      intro x hx
      simp at hx
      subst hx
      refine ⟨hn, .inr (.inr (.inr (.inr (.inl ⟨rfl, hf, ht, ?_⟩))))⟩
      rcases (hi.h4).1 h4 with q | q
      · left; rw [← q.1]; exact q.2
      · rcases q.2 with q2 | q2
        · exact hi.abt m.to m.trans (by omega) q2
        · exact .inr ⟨m.to, ht.resolve_left q.1, q2⟩
    · split
      · rename_i h0
        have hmem := ht.resolve_left h0.2
        have h00 := (hi.h0).1 h0.1
        have hw : WrOk s m.to m.trans 4 := .inr (.inr (.inr (.inr (.inl ⟨hmem, rfl, h00, hn⟩))))
        refine (hi.wrote m.to m.trans 4 [⟨5, m.to, m.frm, m.trans⟩] hw ?_).1
        intro x hx
        simp at hx
        subst hx
        have e : (s.write m.to m.trans 4).h m.to m.trans = [4] := by rw [h_write, if_pos ⟨rfl, rfl⟩, h00]; rfl
        exact ⟨WrOk.ne_keep hn, .inr (.inr (.inr (.inr (.inl ⟨rfl, hf, .inr hmem, .inr ⟨m.to, hmem, e⟩⟩))))⟩
      · exact hi

theorem allNotedOf_iff (s : St) (t : Nat) (l : List Nat) : allNotedOf s t l = true ↔ ∀ m, m ∈ l → s.noted t m = true := by
  induction l with
  | nil => simp [allNotedOf]
  | cons x r ih => simp [allNotedOf, ih]

/-- What a node does with a message keeps it. -/
theorem Inv.recv {s : St} (hi : Inv s) (hk : Keys s) (m : Msg) (hm : MsgOk s m) : Inv (s.recv m).1 := by
  have hheard : Inv (s.heard m) ∧ Same s (s.heard m) := by
    unfold St.heard
    split
    · rename_i h
      refine ⟨hi.note _ _ ?_, same_note _ _ _⟩
      rcases hm.2 with b | b | b | b | b | b <;> first | exact b.2.2.2 | (have := b.1; have := h.1; omega)
    · exact ⟨hi, Same.rfl' s⟩
  obtain ⟨hi2, e⟩ := hheard
  have hm2 : MsgOk (s.heard m) m := (e.msg m).2 hm
  have hk2 : Keys (s.heard m) := by unfold Keys; rw [e.deals]; exact hk
  unfold St.recv
  generalize s.heard m = s' at *
  have hkind := hm2
  unfold St.acts
  obtain ⟨hn, hb⟩ := hm2
  rcases hb with b | b | b | b | b | b
  · rw [b.1]; exact hi2.vote hk2 m hkind b.1
  · rw [b.1]
    simp only
    split
    · rename_i h
      have h1 := ((hi2.h1).1 h.1).2
      rw [b.2.1] at h1 ⊢
      refine hi2.committed m.trans h1 ?_
      intro x hx
      exact hi2.ntd _ _ ((allNotedOf_iff _ _ _).1 h.2 x hx)
    · exact hi2
  · rw [b.1]
    simp only
    split
    · rename_i h
      have h1 := ((hi2.h1).1 h).2
      rw [b.2.1] at h1 ⊢
      exact hi2.aborted m.trans h1
    · exact hi2
  · rw [b.1]
    simp only
    split
    · rename_i h
      exact (hi2.wrote m.to m.trans 3 [] (.inr (.inr (.inr (.inr (.inr (.inl ⟨b.2.1, rfl, (hi2.h2).1 h, b.2.2.2⟩)))))) (by intro x hx; simp at hx)).1
    · exact hi2
  · rw [b.1]
    simp only
    split
    · rename_i h
      rcases h with h | h
      · exact (hi2.wrote m.to m.trans 4 [] (.inr (.inr (.inr (.inr (.inr (.inr ⟨b.2.1, rfl, (hi2.h2).1 h, b.2.2.2⟩)))))) (by intro x hx; simp at hx)).1
      · exact (hi2.wrote m.to m.trans 4 [] (.inr (.inr (.inr (.inr (.inl ⟨b.2.1, rfl, (hi2.h0).1 h, hn⟩))))) (by intro x hx; simp at hx)).1
    · exact hi2
  · rw [b.1]; exact hi2.doubt m hkind b.1

end Acc
