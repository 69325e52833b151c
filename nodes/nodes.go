// Package nodes: the coordinator and the parts, what they have written down, and what they do.
package nodes

import (
	"accord/api"
	"accord/deal"
	"accord/mail"
)

// Coordinator is the number of the node that decides.
const Coordinator = 0

// node has a log, which no crash touches, so that all that it must not forget stands there.
type node struct {
	log  []api.Record
	down bool
	fuse fuse
}

// votes are the transactions' noted votes, by transaction and part.
type votes [api.MaxTrans + 1][api.MaxParts + 1]bool

// Nodes is all nodes, the transactions, and what is flying between the nodes.
type Nodes struct {
	all   []node
	deals []deal.Deal
	noted votes
	mail  mail.Mail
}

// Make makes a coordinator and so many parts.
func Make(parts int) *Nodes {
	return &Nodes{all: make([]node, parts+1)}
}

// Parts tells how many nodes there are besides the coordinator.
func (n *Nodes) Parts() int {
	return len(n.all) - 1
}

// Has tells whether there is such a node.
func (n *Nodes) Has(node int) bool {
	return node >= 0 && node < len(n.all)
}

// HasKey tells whether that node is a part, and has such a key.
func (n *Nodes) HasKey(part int, key int) bool {
	return n.Has(part) && part != Coordinator && deal.IsKey(key)
}

// HasTrans tells whether there is such a transaction.
func (n *Nodes) HasTrans(trans int) bool {
	return trans >= 1 && trans <= len(n.deals)
}

// Full tells whether there may be no more transactions.
func (n *Nodes) Full() bool {
	return len(n.deals) >= api.MaxTrans
}

// Flies tells whether there is a message number i.
func (n *Nodes) Flies(i int) bool {
	return n.mail.Has(i)
}

// Flying is what is on its way, as a list of its own.
func (n *Nodes) Flying() []api.Message {
	return n.mail.All()
}

// Drop loses message number i; there must be one.
func (n *Nodes) Drop(i int) {
	n.mail.Take(i)
}

// Double lets message number i fly once more; there must be one. No node has sent it, so that it is no act.
func (n *Nodes) Double(i int) {
	n.mail.Double(i)
}

// deal is the transaction of that number; there must be one.
func (n *Nodes) deal(trans int) deal.Deal {
	return n.deals[trans-1]
}
