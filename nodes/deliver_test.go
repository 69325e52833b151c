package nodes

import (
	"slices"
	"testing"

	"accord/api"
)

// at makes three parts and a transaction of parts 1 and 2, with a record of it at a node (none, where it is Unknown).
func at(node, state int) *Nodes {
	n := Make(3)
	n.Begin(n.Add([]api.Write{{Part: 2, Key: 1, Value: 7}, {Part: 1, Key: 1, Value: 8}}))
	for n.Flies(0) {
		n.mail.Take(0)
	}
	n.all[Coordinator].log = nil
	if state != api.Unknown {
		n.write(node, 1, state)
	}
	return n
}

// row is one of P6's: a message that comes to a node in a state, what is written there then, and what is flying.
type row struct {
	kind, from, to, state int
	written               int // Unknown: nothing
	sent                  []api.Message
}

// sends makes messages of the transaction 1 of one kind.
func sends(kind, from int, to ...int) []api.Message {
	var list []api.Message
	for _, node := range to {
		list = append(list, api.Message{Kind: kind, From: from, To: node, Trans: 1})
	}
	return list
}

func rows() []row {
	return []row{
		{api.Prepare, 0, 2, api.Unknown, api.Prepared, sends(api.Yes, 2, 0)},
		{api.Prepare, 0, 2, api.Prepared, api.Unknown, sends(api.Yes, 2, 0)},
		{api.Prepare, 0, 2, api.Aborted, api.Unknown, sends(api.No, 2, 0)},
		{api.Prepare, 0, 2, api.Committed, api.Unknown, nil},

		{api.Yes, 2, 0, api.Unknown, api.Unknown, nil},
		{api.Yes, 2, 0, api.Begun, api.Unknown, nil}, // one vote of two
		{api.Yes, 2, 0, api.Committed, api.Unknown, nil},
		{api.Yes, 2, 0, api.Aborted, api.Unknown, nil},

		{api.No, 2, 0, api.Unknown, api.Unknown, nil},
		{api.No, 2, 0, api.Begun, api.Aborted, sends(api.Abort, 0, 1, 2)},
		{api.No, 2, 0, api.Committed, api.Unknown, nil},
		{api.No, 2, 0, api.Aborted, api.Unknown, nil},

		{api.Commit, 0, 2, api.Unknown, api.Unknown, nil},
		{api.Commit, 0, 2, api.Prepared, api.Committed, nil},
		{api.Commit, 1, 2, api.Prepared, api.Committed, nil},
		{api.Commit, 0, 2, api.Committed, api.Unknown, nil},
		{api.Commit, 0, 2, api.Aborted, api.Unknown, nil},

		{api.Abort, 0, 2, api.Unknown, api.Aborted, nil},
		{api.Abort, 0, 2, api.Prepared, api.Aborted, nil},
		{api.Abort, 1, 2, api.Prepared, api.Aborted, nil},
		{api.Abort, 0, 2, api.Committed, api.Unknown, nil},
		{api.Abort, 0, 2, api.Aborted, api.Unknown, nil},

		{api.Ask, 1, 2, api.Unknown, api.Aborted, sends(api.Abort, 2, 1)},
		{api.Ask, 1, 2, api.Prepared, api.Unknown, nil},
		{api.Ask, 1, 2, api.Committed, api.Unknown, sends(api.Commit, 2, 1)},
		{api.Ask, 1, 2, api.Aborted, api.Unknown, sends(api.Abort, 2, 1)},
		{api.Ask, 1, 0, api.Unknown, api.Unknown, nil},
		{api.Ask, 1, 0, api.Begun, api.Unknown, nil},
		{api.Ask, 1, 0, api.Committed, api.Unknown, sends(api.Commit, 0, 1)},
		{api.Ask, 1, 0, api.Aborted, api.Unknown, sends(api.Abort, 0, 1)},
	}
}

func TestRows(t *testing.T) { // P6, P7
	for _, r := range rows() {
		n := at(r.to, r.state)
		want := n.Log(r.to)
		if r.written != api.Unknown {
			want = append(want, api.Record{Trans: 1, State: r.written})
		}
		n.send(r.kind, r.from, r.to, 1)
		n.Deliver(0)
		if got := n.Log(r.to); !slices.Equal(got, want) {
			t.Errorf("message %d from %d to %d in state %d: the log is %v, want %v", r.kind, r.from, r.to, r.state, got, want)
		}
		if got := n.Flying(); !slices.Equal(got, r.sent) {
			t.Errorf("message %d from %d to %d in state %d: sent is %v, want %v", r.kind, r.from, r.to, r.state, got, r.sent)
		}
		for node := range n.all {
			if node != r.to && len(n.Log(node)) > 0 {
				t.Errorf("message %d to %d: node %d has written %v", r.kind, r.to, node, n.Log(node))
			}
		}
	}
}

func TestVotesAreOfTheirSender(t *testing.T) { // P6: the same vote twice is one vote
	n := at(Coordinator, api.Begun)
	for range 3 {
		n.send(api.Yes, 1, 0, 1)
		n.Deliver(0)
	}
	if n.State(0, 1) != api.Begun || n.Flies(0) {
		t.Fatalf("one member's votes are enough: %v", n.Flying())
	}
	n.send(api.Yes, 2, 0, 1)
	n.Deliver(0)
	if n.State(0, 1) != api.Committed || !slices.Equal(n.Flying(), sends(api.Commit, 0, 1, 2)) {
		t.Errorf("both have voted: state %d, flying %v", n.State(0, 1), n.Flying())
	}
}

func TestPreparedAgainIsNoClash(t *testing.T) { // P6: a transaction does not clash with itself
	n := Make(1)
	n.Begin(n.Add([]api.Write{{Part: 1, Key: 2, Value: 3}}))
	n.send(api.Prepare, 0, 1, 1)
	n.Deliver(0)
	n.Deliver(0)
	if n.State(1, 1) != api.Prepared || n.Holder(1, 2) != 1 || len(n.Log(1)) != 1 {
		t.Errorf("the log is %v", n.Log(1))
	}
	if got := n.Flying(); !slices.Equal(got, append(sends(api.Yes, 1, 0), sends(api.Yes, 1, 0)...)) {
		t.Errorf("flying are %v, want Yes twice", got)
	}
}
