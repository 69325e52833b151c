package accord_test

import (
	"slices"
	"testing"

	"accord/accord"
	"accord/api"
)

// dice gives the same numbers in each run.
type dice uint64

func (d *dice) below(n int) int {
	*d = *d*6364136223846793005 + 1442695040888963407
	return int(uint64(*d) >> 33 % uint64(n))
}

// some makes writes that clash often.
func (d *dice) some(parts int) []api.Write {
	var list []api.Write
	for part := 1; part <= parts; part++ {
		if d.below(2) == 0 {
			list = append(list, api.Write{Part: part, Key: d.below(api.Keys), Value: d.below(1000)})
		}
	}
	return list
}

// wantAgreement holds all states of a transaction against each other.
func wantAgreement(t *testing.T, w *accord.World, parts, trans int) {
	t.Helper()
	var seen [5]int
	for node := 0; node <= parts; node++ {
		seen[state(t, w, node, trans)]++
	}
	if seen[api.Committed] > 0 && seen[api.Aborted] > 0 {
		t.Fatalf("transaction %d is Committed and Aborted", trans)
	}
}

// wantLawfulLogs wants each transaction's records at each node to be one of the few rows that may be.
func wantLawfulLogs(t *testing.T, w *accord.World, parts int) {
	t.Helper()
	for node := 0; node <= parts; node++ {
		list, _ := w.Log(node)
		var last [api.MaxTrans + 1]int
		for _, r := range list {
			from := last[r.Trans]
			ok := from == api.Unknown && (r.State == api.Begun) == (node == 0)
			ok = ok || from == api.Begun && node == 0 && r.State >= api.Committed
			ok = ok || from == api.Prepared && node > 0 && r.State >= api.Committed
			if !ok || node > 0 && from == api.Unknown && r.State == api.Committed {
				t.Fatalf("the log of node %d: %v", node, list)
			}
			last[r.Trans] = r.State
		}
	}
}

// wantLawfulKeys works out values and holders from the logs and the writes.
func wantLawfulKeys(t *testing.T, w *accord.World, parts int, all [][]api.Write) {
	t.Helper()
	for part := 1; part <= parts; part++ {
		var value, holder [api.Keys]int
		list, _ := w.Log(part)
		for _, r := range list {
			for _, write := range all[r.Trans-1] {
				if write.Part != part {
					continue
				}
				switch r.State {
				case api.Prepared:
					holder[write.Key] = r.Trans
				case api.Committed:
					value[write.Key], holder[write.Key] = write.Value, 0
				case api.Aborted:
					if holder[write.Key] == r.Trans {
						holder[write.Key] = 0
					}
				}
			}
		}
		for key := range api.Keys {
			wantKey(t, w, part, key, value[key], holder[key])
		}
	}
}

// wantAllWerePrepared: Committed stands nowhere, unless all members' logs have Prepared.
func wantAllWerePrepared(t *testing.T, w *accord.World, parts, trans int, writes []api.Write) {
	t.Helper()
	committed := false
	for node := 0; node <= parts; node++ {
		committed = committed || state(t, w, node, trans) == api.Committed
	}
	for _, write := range writes {
		list, _ := w.Log(write.Part)
		if committed && !slices.Contains(list, api.Record{Trans: trans, State: api.Prepared}) {
			t.Fatalf("transaction %d is Committed, and part %d was never Prepared", trans, write.Part)
		}
	}
}

// wantLawful holds all that is written down against what follows for every world (P12).
func wantLawful(t *testing.T, w *accord.World, parts int, all [][]api.Write) {
	t.Helper()
	for i, writes := range all {
		wantAgreement(t, w, parts, i+1)
		wantAllWerePrepared(t, w, parts, i+1, writes)
	}
	wantLawfulLogs(t, w, parts)
	wantLawfulKeys(t, w, parts, all)
}

// wantSettled wants no transaction to be Begun or Prepared anywhere, and adds to how many ended in which state.
func wantSettled(t *testing.T, w *accord.World, parts, trans int, ends *[5]int) {
	t.Helper()
	for number := 1; number <= trans; number++ {
		for node := 0; node <= parts; node++ {
			s := state(t, w, node, number)
			if s == api.Begun || s == api.Prepared {
				t.Fatalf("transaction %d still waits at node %d", number, node)
			}
			ends[s]++
		}
	}
}

// settle lets all come, and again after one node and the other has ticked; all must be up, and none have a fuse.
func settle(t *testing.T, w *accord.World, parts int, all [][]api.Write) {
	t.Helper()
	deliverAll(t, w)
	for node := 0; node <= parts; node++ {
		tick(t, w, node)
		deliverAll(t, w)
		wantLawful(t, w, parts, all)
	}
}

// walks takes many walks, each through a world of its own: a walk answers its transactions, which must be settled then.
func walks(t *testing.T, walk func(d *dice, w *accord.World, parts int) [][]api.Write) {
	t.Helper()
	var d dice
	var ends [5]int
	for range 300 {
		parts := 1 + d.below(api.MaxParts)
		w := world(t, parts)
		all := walk(&d, w, parts)
		wantRecords(t, w, fromLogs(w, parts))
		wantSettled(t, w, parts, len(all), &ends)
	}
	if ends[api.Committed] < 1000 || ends[api.Aborted] < 1000 {
		t.Errorf("the walks are too plain: %v", ends)
	}
}

func TestWalks(t *testing.T) { // whatever comes first, all of them do it, or none, and nobody waits in the end
	walks(t, func(d *dice, w *accord.World, parts int) [][]api.Write {
		var all [][]api.Write
		for len(all) < 8 || len(w.Flying()) > 0 {
			if list := d.some(parts); len(all) < 8 && len(list) > 0 && d.below(4) == 0 {
				all = append(all, list)
				w.Begin(list)
			} else if n := len(w.Flying()); n > 0 {
				deliver(t, w, d.below(n))
			}
			wantLawful(t, w, parts, all)
		}
		return all
	})
}

// mishap lets a message be lost or doubled, or the patience of a node end, which must be up.
func (d *dice) mishap(t *testing.T, w *accord.World, node int) {
	t.Helper()
	n := len(w.Flying())
	switch {
	case d.below(12) == 0:
		tick(t, w, node)
	case n > 0 && d.below(3) == 0:
		drop(t, w, d.below(n))
	case n > 0:
		double(t, w, d.below(n))
	}
}

func TestWildWalks(t *testing.T) { // P12, P13: the same, whatever is lost or doubled, and whose patience ends when
	walks(t, func(d *dice, w *accord.World, parts int) [][]api.Write {
		var all [][]api.Write
		for range 200 {
			n := len(w.Flying())
			if list := d.some(parts); len(all) < api.MaxTrans && len(list) > 0 && d.below(8) == 0 {
				all = append(all, list)
				w.Begin(list)
			} else if n > 0 && d.below(3) > 0 {
				deliver(t, w, d.below(n))
			} else {
				d.mishap(t, w, d.below(parts+1))
			}
			wantLawful(t, w, parts, all)
		}
		settle(t, w, parts, all)
		return all
	})
}

func TestNoCallPanics(t *testing.T) { // P1
	numbers := append(extremes(), 0, 1, 2, 5, 6, 12, 13, 60)
	for _, trans := range []int{0, 3} {
		w := world(t, 2)
		for range trans {
			w.Begin(puts(1, 0, 1, 2, 0, 1))
		}
		for _, a := range numbers {
			w.Deliver(a)
			w.Drop(a)
			w.Double(a)
			w.Tick(a)
			w.Crash(a)
			w.Recover(a)
			w.Up(a)
			w.Log(a)
			for range w.Records() {
			}
			for _, b := range numbers {
				w.Fuse(a, b)
				w.State(a, b)
				w.Value(a, b)
				w.Holder(a, b)
				w.Begin(puts(a, b, a))
			}
		}
	}
}
