package nodes

import (
	"accord/api"
	"accord/deal"
)

// The acts of a node are these two, write and send: whatever else a node does is made of them.

func (n *Nodes) write(node int, trans int, state int) {
	log := &n.all[node].log
	*log = append(*log, api.Record{Trans: trans, State: state})
}

func (n *Nodes) send(kind int, from int, to int, trans int) {
	n.mail.Send(api.Message{Kind: kind, From: from, To: to, Trans: trans})
}

// tell sends the coordinator's word to each member.
func (n *Nodes) tell(kind int, trans int) {
	for _, member := range n.deal(trans).Members() {
		n.send(kind, Coordinator, member, trans)
	}
}

// answer sends back to where a message came from.
func (n *Nodes) answer(message api.Message, kind int) {
	n.send(kind, message.To, message.From, message.Trans)
}

// Begin begins one more transaction; its writes must be sound, and there must be room for it.
func (n *Nodes) Begin(writes []api.Write) int {
	n.deals = append(n.deals, deal.Make(writes))
	trans := len(n.deals)
	n.write(Coordinator, trans, api.Begun)
	n.tell(api.Prepare, trans)
	return trans
}
