package nodes

import (
	"accord/api"
	"accord/deal"
)

// The acts of a node are these two, write and send: whatever else a node does is made of them.

func (n *Nodes) write(node int, trans int, state int) {
	n.burn(node)
	log := &n.all[node].log
	*log = append(*log, api.Record{Trans: trans, State: state})
}

func (n *Nodes) send(kind int, from int, to int, trans int) {
	n.burn(from)
	n.mail.Send(api.Message{Kind: kind, From: from, To: to, Trans: trans})
}

// proclaim gives a transaction a state at the coordinator and tells each member: the record first, so that nobody hears of what is not written down.
func (n *Nodes) proclaim(trans int, state int, kind int) {
	n.write(Coordinator, trans, state)
	for _, member := range n.deal(trans).Members() {
		n.send(kind, Coordinator, member, trans)
	}
}

// answer sends back to where a message came from.
func (n *Nodes) answer(message api.Message, kind int) {
	n.send(kind, message.To, message.From, message.Trans)
}

// Add makes one more transaction, of which no node knows yet, and answers its number; its writes must be sound, and there must be room for it.
func (n *Nodes) Add(writes []api.Write) int {
	n.deals = append(n.deals, deal.Make(writes))
	return len(n.deals)
}

// Begin lets the coordinator begin a transaction that was added.
func (n *Nodes) Begin(trans int) {
	n.proclaim(trans, api.Begun, api.Prepare)
}
