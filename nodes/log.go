package nodes

import "accord/api"

// Log is what a node has written down, as a list of its own.
func (n *Nodes) Log(node int) []api.Record {
	log := n.all[node].log
	list := make([]api.Record, len(log))
	copy(list, log)
	return list
}

// Logs is what all nodes have written down, node by node, as lists of their own.
func (n *Nodes) Logs() [][]api.Record {
	list := make([][]api.Record, len(n.all))
	for node := range n.all {
		list[node] = n.Log(node)
	}
	return list
}

// State is that of the last record that a node has of a transaction.
func (n *Nodes) State(node int, trans int) int {
	log := n.all[node].log
	for i := len(log) - 1; i >= 0; i-- {
		if log[i].Trans == trans {
			return log[i].State
		}
	}
	return api.Unknown
}

// Value is what the last transaction that was committed at a part has made of a key.
func (n *Nodes) Value(part int, key int) int {
	log := n.all[part].log
	for i := len(log) - 1; i >= 0; i-- {
		if log[i].State != api.Committed {
			continue
		}
		if value, ok := n.deal(log[i].Trans).Value(part, key); ok {
			return value
		}
	}
	return 0
}

// Holder is the transaction that is prepared at a part and writes a key there, 0 if none is.
func (n *Nodes) Holder(part int, key int) int {
	for trans := 1; trans <= len(n.deals); trans++ {
		if n.State(part, trans) != api.Prepared {
			continue
		}
		if _, ok := n.deal(trans).Value(part, key); ok {
			return trans
		}
	}
	return 0
}
