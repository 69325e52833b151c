package nodes

import "accord/api"

// Deliver lets message number i come; there must be one. It is lost, if nobody is up to hear it.
func (n *Nodes) Deliver(i int) {
	message := n.mail.Take(i)
	if n.Up(message.To) {
		n.receive(message)
	}
}

func (n *Nodes) receive(message api.Message) {
	does := [...]func(*Nodes, api.Message){
		api.Prepare: (*Nodes).prepare,
		api.Yes:     (*Nodes).yes,
		api.No:      (*Nodes).no,
		api.Commit:  (*Nodes).commit,
		api.Abort:   (*Nodes).abort,
		api.Ask:     (*Nodes).ask,
	}
	does[message.Kind](n, message)
}

// stateAt is the state of a message's transaction at the node to which it goes.
func (n *Nodes) stateAt(message api.Message) int {
	return n.State(message.To, message.Trans)
}

func (n *Nodes) prepare(message api.Message) {
	switch n.stateAt(message) {
	case api.Unknown:
		n.vote(message)
	case api.Prepared:
		n.answer(message, api.Yes)
	case api.Aborted:
		n.answer(message, api.No)
	}
}

func (n *Nodes) vote(message api.Message) {
	if n.clashes(message.To, message.Trans) {
		n.write(message.To, message.Trans, api.Aborted)
		n.answer(message, api.No)
		return
	}
	n.write(message.To, message.Trans, api.Prepared)
	n.answer(message, api.Yes)
}

// clashes tells whether a key that a transaction writes at a part is held; it must not be prepared there itself.
func (n *Nodes) clashes(part int, trans int) bool {
	for key := range api.Keys {
		if _, ok := n.deal(trans).Value(part, key); ok && n.Holder(part, key) != 0 {
			return true
		}
	}
	return false
}

func (n *Nodes) yes(message api.Message) {
	if n.stateAt(message) != api.Begun {
		return
	}
	n.noted[message.Trans][message.From] = true
	if n.allNoted(message.Trans) {
		n.proclaim(message.Trans, api.Committed, api.Commit)
	}
}

func (n *Nodes) allNoted(trans int) bool {
	for _, member := range n.deal(trans).Members() {
		if !n.noted[trans][member] {
			return false
		}
	}
	return true
}

func (n *Nodes) no(message api.Message) {
	if n.stateAt(message) == api.Begun {
		n.giveUp(message.Trans)
	}
}

func (n *Nodes) commit(message api.Message) {
	if n.stateAt(message) == api.Prepared {
		n.write(message.To, message.Trans, api.Committed)
	}
}

func (n *Nodes) abort(message api.Message) {
	switch n.stateAt(message) {
	case api.Prepared, api.Unknown:
		n.write(message.To, message.Trans, api.Aborted)
	}
}

func (n *Nodes) ask(message api.Message) {
	switch n.stateAt(message) {
	case api.Committed:
		n.answer(message, api.Commit)
	case api.Aborted:
		n.answer(message, api.Abort)
	case api.Unknown:
		n.refuse(message)
	}
}

// refuse settles what a part was never asked to prepare: once it has told Abort, it may not say Yes any more.
func (n *Nodes) refuse(message api.Message) {
	if message.To == Coordinator {
		return
	}
	n.write(message.To, message.Trans, api.Aborted)
	n.answer(message, api.Abort)
}
