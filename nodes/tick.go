package nodes

import "accord/api"

// Tick ends a node's patience; there must be such a node.
func (n *Nodes) Tick(node int) {
	for trans := 1; trans <= len(n.deals); trans++ {
		switch n.State(node, trans) {
		case api.Begun: // none but the coordinator's
			n.giveUp(trans)
		case api.Prepared: // none but a part's
			n.askAround(node, trans)
		}
	}
}

// giveUp aborts a transaction that the coordinator has begun and not decided.
func (n *Nodes) giveUp(trans int) {
	n.proclaim(trans, api.Aborted, api.Abort)
}

// askAround asks the other members too, so that a part does not wait for the coordinator alone.
func (n *Nodes) askAround(part int, trans int) {
	n.send(api.Ask, part, Coordinator, trans)
	for _, member := range n.deal(trans).Members() {
		if member != part {
			n.send(api.Ask, part, member, trans)
		}
	}
}
