package nodes

import "accord/api"

// Tick ends a node's patience; there must be such a node.
func (n *Nodes) Tick(node int) {
	if node == Coordinator {
		n.giveUpAll()
		return
	}
	for trans := 1; trans <= len(n.deals); trans++ {
		if n.State(node, trans) == api.Prepared {
			n.askAround(node, trans)
		}
	}
}

// giveUpAll gives up whatever the coordinator has begun and not decided.
func (n *Nodes) giveUpAll() {
	for trans := 1; trans <= len(n.deals); trans++ {
		if n.State(Coordinator, trans) == api.Begun {
			n.giveUp(trans)
		}
	}
}

// giveUp aborts a transaction that the coordinator has begun and not decided.
func (n *Nodes) giveUp(trans int) {
	n.proclaim(trans, api.Aborted, api.Abort)
}

// askAround asks the other members too, so that a part does not wait for the coordinator alone.
func (n *Nodes) askAround(part int, trans int) {
	n.send(api.Ask, part, Coordinator, trans)
	for _, member := range n.deal(trans).Members() {
		if member != part {
			n.send(api.Ask, part, member, trans)
		}
	}
}
