// Package accord: transactions, and how nodes agree on them: see DOC.md.
package accord

import (
	"iter"
	"sync"

	"accord/api"
	"accord/deal"
	"accord/nodes"
)

// World is all nodes, and what is on its way.
type World struct {
	lock  sync.Mutex
	nodes *nodes.Nodes
}

// New makes a world (P3).
func New(parts int) (*World, api.Errno) {
	if parts < 1 || parts > api.MaxParts {
		return nil, api.ErrArg
	}
	return &World{nodes: nodes.Make(parts)}, api.OK
}

// Begin begins a transaction (P5).
func (w *World) Begin(writes []api.Write) (int, api.Errno) {
	w.lock.Lock()
	defer w.lock.Unlock()
	if !deal.Sound(writes, w.nodes.Parts()) {
		return 0, api.ErrArg
	}
	if !w.nodes.Up(nodes.Coordinator) {
		return 0, api.ErrDown
	}
	if w.nodes.Full() {
		return 0, api.ErrFull
	}
	trans := w.nodes.Add(writes)
	untilCrash(func() { w.nodes.Begin(trans) })
	return trans, api.OK
}

// Deliver lets a message come (P6).
func (w *World) Deliver(i int) api.Errno {
	return w.withMessage(i, (*nodes.Nodes).Deliver)
}

// Drop loses a message (P4).
func (w *World) Drop(i int) api.Errno {
	return w.withMessage(i, (*nodes.Nodes).Drop)
}

// Double doubles a message (P4).
func (w *World) Double(i int) api.Errno {
	return w.withMessage(i, (*nodes.Nodes).Double)
}

// withMessage does something with message number i, if there is one.
func (w *World) withMessage(i int, does func(*nodes.Nodes, int)) api.Errno {
	w.lock.Lock()
	defer w.lock.Unlock()
	if !w.nodes.Flies(i) {
		return api.ErrNone
	}
	untilCrash(func() { does(w.nodes, i) })
	return api.OK
}

// untilCrash lets a node do something. Where it crashes in the middle of that, it gives up by panic, which is no fault and ends here; any other panic is one, and goes on.
func untilCrash(does func()) {
	defer func() {
		switch gave := recover().(type) {
		case nil, nodes.Crashed:
		default:
			panic(gave)
		}
	}()
	does()
}

// Tick lets a node's patience end (P8).
func (w *World) Tick(node int) api.Errno {
	return w.withNode(node, true, (*nodes.Nodes).Tick)
}

// Crash lets a node crash (P9).
func (w *World) Crash(node int) api.Errno {
	return w.withNode(node, true, (*nodes.Nodes).Crash)
}

// Fuse lets a node crash later (P9).
func (w *World) Fuse(node int, acts int) api.Errno {
	w.lock.Lock()
	defer w.lock.Unlock()
	if errno := w.refuse(node, true); errno != api.OK {
		return errno
	}
	if acts < 0 {
		return api.ErrArg
	}
	w.nodes.Fuse(node, acts)
	return api.OK
}

// Recover lets a node come up again (P10).
func (w *World) Recover(node int) api.Errno {
	return w.withNode(node, false, (*nodes.Nodes).Recover)
}

// withNode does something with a node, if there is one, and if it is up or down as it must be.
func (w *World) withNode(node int, up bool, does func(*nodes.Nodes, int)) api.Errno {
	w.lock.Lock()
	defer w.lock.Unlock()
	if errno := w.refuse(node, up); errno != api.OK {
		return errno
	}
	untilCrash(func() { does(w.nodes, node) })
	return api.OK
}

// refuse tells why nothing can be done with a node, OK if something can.
func (w *World) refuse(node int, up bool) api.Errno {
	if !w.nodes.Has(node) {
		return api.ErrArg
	}
	if w.nodes.Up(node) != up {
		return api.ErrDown
	}
	return api.OK
}

// Flying tells the messages that are on their way (P4).
func (w *World) Flying() []api.Message {
	w.lock.Lock()
	defer w.lock.Unlock()
	return w.nodes.Flying()
}

// Log tells what a node has written down (P11).
func (w *World) Log(node int) ([]api.Record, api.Errno) {
	w.lock.Lock()
	defer w.lock.Unlock()
	if !w.nodes.Has(node) {
		return nil, api.ErrArg
	}
	return w.nodes.Log(node), api.OK
}

// Records goes through what all nodes have written down (P11).
func (w *World) Records() iter.Seq2[int, api.Record] {
	return func(yield func(int, api.Record) bool) {
		for node, log := range w.logs() {
			for _, record := range log {
				if !yield(node, record) {
					return
				}
			}
		}
	}
}

// logs is what all nodes have written down by now. The lock is given back ahead of any going through, since calls may be made meanwhile.
func (w *World) logs() [][]api.Record {
	w.lock.Lock()
	defer w.lock.Unlock()
	return w.nodes.Logs()
}

// State tells a transaction's state at a node (P11).
func (w *World) State(node int, trans int) (int, api.Errno) {
	w.lock.Lock()
	defer w.lock.Unlock()
	if !w.nodes.Has(node) || !w.nodes.HasTrans(trans) {
		return 0, api.ErrArg
	}
	return w.nodes.State(node, trans), api.OK
}

// Value tells what a key has (P11).
func (w *World) Value(part int, key int) (int, api.Errno) {
	w.lock.Lock()
	defer w.lock.Unlock()
	if !w.nodes.HasKey(part, key) {
		return 0, api.ErrArg
	}
	return w.nodes.Value(part, key), api.OK
}

// Holder tells which transaction holds a key (P11).
func (w *World) Holder(part int, key int) (int, api.Errno) {
	w.lock.Lock()
	defer w.lock.Unlock()
	if !w.nodes.HasKey(part, key) {
		return 0, api.ErrArg
	}
	return w.nodes.Holder(part, key), api.OK
}

// Up tells whether a node is up (P9).
func (w *World) Up(node int) (bool, api.Errno) {
	w.lock.Lock()
	defer w.lock.Unlock()
	if !w.nodes.Has(node) {
		return false, api.ErrArg
	}
	return w.nodes.Up(node), api.OK
}
