/-
  The plain model of the document's world: logs, transactions, votes, messages; no Go in it.
-/
namespace Acc

structure Msg where
  kind : Nat
  frm : Nat
  to : Nat
  trans : Nat

structure Wr where
  part : Int
  key : Int
  val : Int

structure St where
  parts : Nat
  log : Nat → List (Nat × Nat)
  deals : List (List Wr)
  noted : Nat → Nat → Bool
  fly : List Msg
  up : Nat → Bool
  fuse : Nat → Option Nat

/-- The state of transaction t by a log: the last record's. -/
def stOf (l : List (Nat × Nat)) (t : Nat) : Nat := l.foldl (fun s x => if x.1 = t then x.2 else s) 0

theorem stOf_snoc (l : List (Nat × Nat)) (x : Nat × Nat) (t : Nat) : stOf (l ++ [x]) t = if x.1 = t then x.2 else stOf l t := by
  simp [stOf, List.foldl_append]

/-- Does a write give this key of this part something? The first one's value. -/
def findW : List Wr → Int → Int → Option Int
  | [], _, _ => none
  | x :: r, p, k => if x.part = p ∧ x.key = k then some x.val else findW r p k

def findI : List Wr → Int → Int → Int → Int
  | [], _, _, _ => -1
  | x :: r, p, k, i => if x.part = p ∧ x.key = k then i else findI r p k (i + 1)

def hasPart : List Wr → Int → Bool
  | [], _ => false
  | x :: r, p => decide (x.part = p) || hasPart r p

def membersTo (ws : List Wr) : Nat → List Nat
  | 0 => []
  | n + 1 => membersTo ws n ++ (if hasPart ws ((n : Int) + 1) then [n + 1] else [])

/-- The parts of a transaction's writes, by rising numbers. -/
def members (ws : List Wr) : List Nat := membersTo ws 5

def St.deal (s : St) (t : Nat) : List Wr := s.deals.getD (t - 1) []

def St.state (s : St) (n t : Nat) : Nat := stOf (s.log n) t

def valStep (s : St) (p k : Int) (v : Int) (x : Nat × Nat) : Int :=
  if x.2 = 3 then (findW (s.deal x.1) p k).getD v else v

def St.value (s : St) (p : Nat) (k : Int) : Int := (s.log p).foldl (valStep s p k) 0

def St.holds (s : St) (p : Nat) (k : Int) (t : Nat) : Bool := decide (s.state p t = 2) && (findW (s.deal t) p k).isSome

def holdFrom (s : St) (p : Nat) (k : Int) : Nat → Nat → Nat
  | 0, _ => 0
  | n + 1, t => if s.holds p k t then t else holdFrom s p k n (t + 1)

/-- The transaction that holds a key of a part, 0 if none does. -/
def St.holder (s : St) (p : Nat) (k : Int) : Nat := holdFrom s p k s.deals.length 1

def clashTo (s : St) (p t : Nat) : Nat → Bool
  | 0 => false
  | k + 1 => clashTo s p t k || ((findW (s.deal t) p k).isSome && decide (s.holder p k ≠ 0))

def St.clashes (s : St) (p t : Nat) : Bool := clashTo s p t 4

def St.write (s : St) (n t st : Nat) : St := { s with log := fun i => if i = n then s.log n ++ [(t, st)] else s.log i }
def St.send (s : St) (m : Msg) : St := { s with fly := if s.fly.length < 60 then s.fly ++ [m] else s.fly }

def St.tellTo (s : St) (kind t : Nat) : List Nat → St
  | [] => s
  | m :: r => St.tellTo (s.send ⟨kind, 0, m, t⟩) kind t r
def St.tell (s : St) (kind t : Nat) : St := s.tellTo kind t (members (s.deal t))

def St.begin (s : St) (ws : List Wr) : St :=
  (({ s with deals := s.deals ++ [ws] } : St).write 0 (s.deals.length + 1) 1).tell 1 (s.deals.length + 1)

def St.vote (s : St) (m : Msg) : St :=
  if s.clashes m.to m.trans then (s.write m.to m.trans 4).send ⟨3, m.to, m.frm, m.trans⟩
  else (s.write m.to m.trans 2).send ⟨2, m.to, m.frm, m.trans⟩

def St.prepare (s : St) (m : Msg) : St :=
  if s.state m.to m.trans = 0 then s.vote m
  else if s.state m.to m.trans = 2 then s.send ⟨2, m.to, m.frm, m.trans⟩
  else if s.state m.to m.trans = 4 then s.send ⟨3, m.to, m.frm, m.trans⟩
  else s

def St.note (s : St) (t m : Nat) : St := { s with noted := fun a b => if a = t ∧ b = m then true else s.noted a b }
def allNotedOf (s : St) (t : Nat) : List Nat → Bool
  | [] => true
  | m :: r => s.noted t m && allNotedOf s t r
def St.allNoted (s : St) (t : Nat) : Bool := allNotedOf s t (members (s.deal t))

def St.yes (s : St) (m : Msg) : St :=
  if s.state m.to m.trans = 1 then
    if (s.note m.trans m.frm).allNoted m.trans then ((s.note m.trans m.frm).write 0 m.trans 3).tell 4 m.trans else s.note m.trans m.frm
  else s
def St.no (s : St) (m : Msg) : St := if s.state m.to m.trans = 1 then (s.write 0 m.trans 4).tell 5 m.trans else s
def St.commit (s : St) (m : Msg) : St := if s.state m.to m.trans = 2 then s.write m.to m.trans 3 else s
def St.abort (s : St) (m : Msg) : St := if s.state m.to m.trans = 2 ∨ s.state m.to m.trans = 0 then s.write m.to m.trans 4 else s
def St.ask (s : St) (m : Msg) : St :=
  if s.state m.to m.trans = 3 then s.send ⟨4, m.to, m.frm, m.trans⟩
  else if s.state m.to m.trans = 4 then s.send ⟨5, m.to, m.frm, m.trans⟩
  else if s.state m.to m.trans = 0 ∧ m.to ≠ 0 then (s.write m.to m.trans 4).send ⟨5, m.to, m.frm, m.trans⟩
  else s
def St.receive (s : St) (m : Msg) : St :=
  match m.kind with
  | 1 => s.prepare m
  | 2 => s.yes m
  | 3 => s.no m
  | 4 => s.commit m
  | 5 => s.abort m
  | 6 => s.ask m
  | _ => s
def St.deliver (s : St) (i : Nat) : St :=
  match s.fly[i]? with
  | some m => ({ s with fly := s.fly.eraseIdx i } : St).receive m
  | none => s

/-! Crashes: what a node does is a list of acts, done as far as its fuse lets it. -/
inductive Deed where
  | wrt (t st : Nat)
  | snd (m : Msg)

def St.act (s : St) (n : Nat) : Deed → St
  | .wrt t st => s.write n t st
  | .snd m => s.send m
def St.down (s : St) (n : Nat) : St := { s with up := fun i => if i = n then false else s.up i, fuse := fun i => if i = n then none else s.fuse i, noted := if n = 0 then fun _ _ => false else s.noted }
def St.burn (s : St) (n : Nat) : St := { s with fuse := fun i => if i = n then (s.fuse n).map (· - 1) else s.fuse i }
/-- A node does acts; false: it has crashed. -/
def St.does (s : St) (n : Nat) : List Deed → St × Bool
  | [] => (s, true)
  | a :: l => if s.fuse n = some 0 then (s.down n, false) else St.does ((s.burn n).act n a) n l

theorem does_append (s : St) (n : Nat) (a b : List Deed) : s.does n (a ++ b) = if (s.does n a).2 then (s.does n a).1.does n b else s.does n a := by
  induction a generalizing s with
  | nil => simp [St.does]
  | cons x r ih =>
    simp only [List.cons_append, St.does]
    split
    · simp
    · exact ih _

/-- The coordinator writes a state, and sends a message to each member. -/
def St.all (s : St) (t st kind : Nat) : List Deed := .wrt t st :: (members (s.deal t)).map fun m => .snd ⟨kind, 0, m, t⟩
def St.asked (s : St) (m : Msg) : List Deed :=
  if s.state m.to m.trans = 0 then
    if s.clashes m.to m.trans then [.wrt m.trans 4, .snd ⟨3, m.to, m.frm, m.trans⟩] else [.wrt m.trans 2, .snd ⟨2, m.to, m.frm, m.trans⟩]
  else if s.state m.to m.trans = 2 then [.snd ⟨2, m.to, m.frm, m.trans⟩]
  else if s.state m.to m.trans = 4 then [.snd ⟨3, m.to, m.frm, m.trans⟩]
  else []
def St.doubted (s : St) (m : Msg) : List Deed :=
  if s.state m.to m.trans = 3 then [.snd ⟨4, m.to, m.frm, m.trans⟩]
  else if s.state m.to m.trans = 4 then [.snd ⟨5, m.to, m.frm, m.trans⟩]
  else if s.state m.to m.trans = 0 ∧ m.to ≠ 0 then [.wrt m.trans 4, .snd ⟨5, m.to, m.frm, m.trans⟩]
  else []
def St.heard (s : St) (m : Msg) : St := if m.kind = 2 ∧ s.state m.to m.trans = 1 then s.note m.trans m.frm else s
/-- What a node does with a message (a vote has been noted). -/
def St.acts (s : St) (m : Msg) : List Deed :=
  match m.kind with
  | 1 => s.asked m
  | 2 => if s.state m.to m.trans = 1 ∧ s.allNoted m.trans = true then s.all m.trans 3 4 else []
  | 3 => if s.state m.to m.trans = 1 then s.all m.trans 4 5 else []
  | 4 => if s.state m.to m.trans = 2 then [.wrt m.trans 3] else []
  | 5 => if s.state m.to m.trans = 2 ∨ s.state m.to m.trans = 0 then [.wrt m.trans 4] else []
  | 6 => s.doubted m
  | _ => []
def St.recv (s : St) (m : Msg) : St × Bool := (s.heard m).does m.to ((s.heard m).acts m)
def St.drop (s : St) (i : Nat) : St := { s with fly := s.fly.eraseIdx i }
def St.come (s : St) (i : Nat) (m : Msg) : St × Bool := if s.up m.to then (s.drop i).recv m else (s.drop i, true)
def St.dlv (s : St) (i : Nat) : St × Bool :=
  match s.fly[i]? with
  | some m => s.come i m
  | none => (s, true)
def St.dbl (s : St) (i : Nat) : St :=
  match s.fly[i]? with
  | some m => s.send m
  | none => s
def St.deal' (s : St) (ws : List Wr) : St := { s with deals := s.deals ++ [ws] }
def St.bgn (s : St) (ws : List Wr) : St × Bool := (s.deal' ws).does 0 ((s.deal' ws).all (s.deals.length + 1) 1 1)
/-- One behind the other, till one crashes. -/
def andThen (r : St × Bool) (f : St → St × Bool) : St × Bool := if r.2 then f r.1 else r
def St.giveFrom (s : St) : Nat → Nat → St × Bool
  | 0, _ => (s, true)
  | n + 1, t => andThen (if s.state 0 t = 1 then s.does 0 (s.all t 4 5) else (s, true)) fun s' => s'.giveFrom n (t + 1)
def St.giveAll (s : St) : St × Bool := s.giveFrom s.deals.length 1
def St.asks (s : St) (p t : Nat) : List Deed := .snd ⟨6, p, 0, t⟩ :: ((members (s.deal t)).filter fun m => m != p).map fun m => .snd ⟨6, p, m, t⟩
def St.askFrom (s : St) (p : Nat) : Nat → Nat → St × Bool
  | 0, _ => (s, true)
  | n + 1, t => andThen (if s.state p t = 2 then s.does p (s.asks p t) else (s, true)) fun s' => s'.askFrom p n (t + 1)
def St.tick (s : St) (n : Nat) : St × Bool := if n = 0 then s.giveAll else s.askFrom n s.deals.length 1
def St.rise (s : St) (n : Nat) : St := { s with up := fun i => if i = n then true else s.up i }
def St.rcv (s : St) (n : Nat) : St × Bool := if n = 0 then (s.rise n).giveAll else (s.rise n, true)
def St.fused (s : St) (n k : Nat) : St := { s with fuse := fun i => if i = n then some k else s.fuse i }

end Acc
