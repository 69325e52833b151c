package nodes

import (
	"testing"

	"accord/api"
)

// gave is what a function panics with, nil if it does not.
func gave(does func()) (value any) {
	defer func() { value = recover() }()
	does()
	return nil
}

func TestCrashGivesUpByPanic(t *testing.T) { // 'Ways': with a value of a type of its own; the node is down then
	for node := range 3 {
		n := at(Coordinator, api.Unknown)
		n.Fuse(node, 1)
		if got := gave(func() { n.write(node, 1, api.Aborted) }); got != nil {
			t.Errorf("node %d gives up %v ahead of its end", node, got)
		}
		if got := gave(func() { n.send(api.Abort, node, 3, 1) }); got != Crashed(node) {
			t.Errorf("node %d gives up %v, want its crash", node, got)
		}
		if n.Up(node) || n.Flies(0) || n.State(node, 1) != api.Aborted {
			t.Errorf("node %d is up or has sent %v", node, n.Flying())
		}
	}
}

func TestVotesAreForgotten(t *testing.T) { // P9: by a crash of the coordinator, and by no other one
	for node := range 3 {
		n := at(Coordinator, api.Begun)
		n.send(api.Yes, 1, 0, 1)
		n.Deliver(0)
		n.Crash(node)
		if got := n.noted[1][1]; got == (node == Coordinator) {
			t.Errorf("node %d has crashed; the vote is noted: %t", node, got)
		}
	}
}
