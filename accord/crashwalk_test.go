package accord_test

import (
	"math"
	"slices"
	"testing"

	"accord/accord"
	"accord/api"
)

// downfall lets some node crash, now or later, or come up again; whether it may is the world's business.
func (d *dice) downfall(w *accord.World, parts int) {
	node := d.below(parts + 1)
	switch d.below(4) {
	case 0:
		w.Crash(node)
	case 1:
		w.Fuse(node, d.below(8))
	default:
		w.Recover(node)
	}
}

// ramble takes many steps of all kinds, and answers the transactions.
func (d *dice) ramble(t *testing.T, w *accord.World, parts int) [][]api.Write {
	t.Helper()
	var all [][]api.Write
	for range 200 {
		n := len(w.Flying())
		if list := d.some(parts); len(list) > 0 && d.below(8) == 0 {
			if _, errno := w.Begin(list); errno == api.OK {
				all = append(all, list)
			}
		} else if n > 0 && d.below(3) > 0 {
			deliver(t, w, d.below(n))
		} else if d.below(2) == 0 {
			d.downfall(w, parts)
		} else if node := d.below(parts + 1); up(t, w, node) {
			d.mishap(t, w, node)
		}
		wantLawful(t, w, parts, all)
	}
	wantRecords(t, w, fromLogs(w, parts))
	return all
}

// rid lets a node that is up have no fuse: a crash forgets it, or one that never burns down replaces it.
func (d *dice) rid(t *testing.T, w *accord.World, node int) {
	t.Helper()
	if d.below(2) == 0 {
		fuse(t, w, node, math.MaxInt)
		return
	}
	crash(t, w, node)
	comeUp(t, w, node)
}

func TestCrashWalks(t *testing.T) { // P12, P13: all of them do it, or none, whoever crashes when; and nobody waits in the end
	walks(t, func(d *dice, w *accord.World, parts int) [][]api.Write {
		all := d.ramble(t, w, parts)
		for node := 0; node <= parts; node++ {
			if up(t, w, node) {
				d.rid(t, w, node)
			} else {
				comeUp(t, w, node)
			}
		}
		settle(t, w, parts, all)
		return all
	})
}

// someoneKnows tells whether a member other than that part is up and not Prepared.
func someoneKnows(t *testing.T, w *accord.World, part, trans int, writes []api.Write) bool {
	t.Helper()
	return slices.ContainsFunc(writes, func(write api.Write) bool {
		return write.Part != part && up(t, w, write.Part) && state(t, w, write.Part, trans) != api.Prepared
	})
}

// asksOthers lets a part's patience end, and wants it to be Prepared for nothing then of which someone knows; it answers for how many transactions it was helped, and for how many not.
func asksOthers(t *testing.T, w *accord.World, part int, all [][]api.Write) (helped, not int) {
	t.Helper()
	var waits, known []int
	for i, writes := range all {
		if state(t, w, part, i+1) != api.Prepared {
			continue
		}
		if someoneKnows(t, w, part, i+1, writes) {
			known = append(known, i+1)
		} else {
			waits = append(waits, i+1)
		}
	}
	tick(t, w, part)
	deliverAll(t, w)
	for _, trans := range known {
		if state(t, w, part, trans) == api.Prepared {
			t.Fatalf("part %d still waits for %d, though another member is up that can help", part, trans)
		}
	}
	for _, trans := range waits {
		if state(t, w, part, trans) != api.Prepared {
			t.Fatalf("part %d does not wait for %d any more, though nobody can tell how it ends", part, trans)
		}
	}
	return len(known), len(waits)
}

func TestNobodyWaitsForTheCoordinatorAlone(t *testing.T) { // P13: though the coordinator is down
	var d dice
	var helped, not int
	for range 500 {
		parts := 2 + d.below(api.MaxParts-1)
		w := world(t, parts)
		all := d.ramble(t, w, parts)
		w.Crash(0)
		for part := 1; part <= parts; part++ {
			if up(t, w, part) {
				d.rid(t, w, part)
			} else if d.below(2) == 0 {
				comeUp(t, w, part)
			}
		}
		for len(w.Flying()) > 0 {
			drop(t, w, 0)
		}
		for part := 1; part <= parts; part++ {
			if up(t, w, part) {
				h, n := asksOthers(t, w, part, all)
				helped, not = helped+h, not+n
				wantLawful(t, w, parts, all)
			}
		}
	}
	if helped < 100 || not < 100 {
		t.Errorf("the walks are too plain: %d were helped, %d not", helped, not)
	}
}
