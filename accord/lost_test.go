package accord_test

import (
	"strings"
	"testing"

	"accord/api"
)

func TestDropAndDoubleRefuse(t *testing.T) { // P1, P4
	w := world(t, 2)
	for _, i := range append(extremes(), 0) {
		if e, f := w.Drop(i), w.Double(i); e != api.ErrNone || f != api.ErrNone {
			t.Errorf("Drop(%d), Double(%d) of none = %d, %d, want ErrNone", i, i, e, f)
		}
	}
	wantFlying(t, w, "")
	begin(t, w, 1, 1, 0, 1, 2, 0, 1)
	before := picture(t, w, 2, 1)
	for _, i := range append(extremes(), 2, api.MaxFlying) {
		if e, f := w.Drop(i), w.Double(i); e != api.ErrNone || f != api.ErrNone {
			t.Errorf("Drop(%d), Double(%d) of two = %d, %d, want ErrNone", i, i, e, f)
		}
	}
	if after := picture(t, w, 2, 1); after != before {
		t.Errorf("refusals have changed the world from\n%s to\n%s", before, after)
	}
}

func TestDrop(t *testing.T) { // P4: the others keep their order, and no node hears of it
	w := world(t, 4)
	begin(t, w, 1, 1, 0, 1, 2, 0, 1, 3, 0, 1, 4, 0, 1)
	drop(t, w, 1)
	wantFlying(t, w, "Prepare 0>1 #1, Prepare 0>3 #1, Prepare 0>4 #1")
	drop(t, w, 2)
	wantFlying(t, w, "Prepare 0>1 #1, Prepare 0>3 #1")
	drop(t, w, 0)
	wantFlying(t, w, "Prepare 0>3 #1")
	wantLogs(t, w, "1b", "", "", "", "")
	deliver(t, w, 0)
	wantLogs(t, w, "1b", "", "", "1p", "")
	drop(t, w, 0)
	wantFlying(t, w, "")
	if errno := w.Drop(0); errno != api.ErrNone {
		t.Errorf("Drop(0) of none = %d, want ErrNone", errno)
	}
}

func TestDropMakesRoom(t *testing.T) { // P4
	w, told := crowd(t)
	drop(t, w, 3)
	double(t, w, 0)
	told = append(append(told[:3:3], told[4:]...), told[0])
	wantFlying(t, w, strings.Join(told, ", "))
}

func TestDouble(t *testing.T) { // P4: sent once more, behind all others; no node does anything
	w := world(t, 2)
	begin(t, w, 1, 1, 0, 1, 2, 0, 1)
	begin(t, w, 2, 2, 1, 1)
	double(t, w, 1)
	wantFlying(t, w, "Prepare 0>1 #1, Prepare 0>2 #1, Prepare 0>2 #2, Prepare 0>2 #1")
	double(t, w, 3, 2)
	wantFlying(t, w, "Prepare 0>1 #1, Prepare 0>2 #1, Prepare 0>2 #2, Prepare 0>2 #1, Prepare 0>2 #1, Prepare 0>2 #2")
	wantLogs(t, w, "1b 2b", "", "")
	deliver(t, w, 1) // each of them comes and goes by itself
	wantFlying(t, w, "Prepare 0>1 #1, Prepare 0>2 #2, Prepare 0>2 #1, Prepare 0>2 #1, Prepare 0>2 #2, Yes 2>0 #1")
	drop(t, w, 2)
	wantFlying(t, w, "Prepare 0>1 #1, Prepare 0>2 #2, Prepare 0>2 #1, Prepare 0>2 #2, Yes 2>0 #1")
	double(t, w, 4) // of the part that has sent it, whoever doubles it
	wantFlying(t, w, "Prepare 0>1 #1, Prepare 0>2 #2, Prepare 0>2 #1, Prepare 0>2 #2, Yes 2>0 #1, Yes 2>0 #1")
}

func TestDoubleWhenFlyingIsFull(t *testing.T) { // P4: OK, and lost
	w, told := crowd(t)
	double(t, w, 0, api.MaxFlying-1)
	wantFlying(t, w, strings.Join(told, ", "))
	if errno := w.Double(api.MaxFlying); errno != api.ErrNone {
		t.Errorf("Double(MaxFlying) = %d, want ErrNone", errno)
	}
	drop(t, w, 0)
	double(t, w, 4, 5)
	wantFlying(t, w, strings.Join(append(told[1:], told[5]), ", "))
}

func TestPrepareTwice(t *testing.T) { // P6: Prepared says Yes again, Committed nothing, Aborted No again
	w := world(t, 1)
	begin(t, w, 1, 1, 0, 1)
	double(t, w, 0, 0)
	deliver(t, w, 0, 0)
	wantLogs(t, w, "1b", "1p")
	wantFlying(t, w, "Prepare 0>1 #1, Yes 1>0 #1, Yes 1>0 #1")
	deliver(t, w, 1, 2) // both are one vote, and enough; Commit comes
	wantLogs(t, w, "1b 1c", "1p 1c")
	wantFlying(t, w, "Prepare 0>1 #1, Yes 1>0 #1")
	deliver(t, w, 0, 0)
	wantLogs(t, w, "1b 1c", "1p 1c")
	wantFlying(t, w, "")

	begin(t, w, 2, 1, 0, 2)
	begin(t, w, 3, 1, 0, 3)
	double(t, w, 1)
	deliver(t, w, 0, 0)
	wantFlying(t, w, "Prepare 0>1 #3, Yes 1>0 #2, No 1>0 #3")
	deliver(t, w, 1, 2) // the key is free again, but Aborted stays
	wantKey(t, w, 1, 0, 2, 0)
	deliver(t, w, 0)
	wantLogs(t, w, "1b 1c 2b 3b 2c", "1p 1c 2p 3a 2c")
	wantFlying(t, w, "No 1>0 #3, No 1>0 #3")
}

func TestCommitTwice(t *testing.T) { // P6: a late Commit does not bring an old value back
	w := world(t, 2)
	begin(t, w, 1, 1, 0, 1, 2, 0, 1)
	deliver(t, w, 0, 0, 0, 0)
	double(t, w, 0)
	deliver(t, w, 0)
	wantFlying(t, w, "Commit 0>2 #1, Commit 0>1 #1")
	begin(t, w, 2, 1, 0, 2)
	deliver(t, w, 2, 2, 2)
	wantKey(t, w, 1, 0, 2, 0)
	deliver(t, w, 1)
	wantKey(t, w, 1, 0, 2, 0)
	wantLogs(t, w, "1b 1c 2b 2c", "1p 1c 2p 2c", "1p")
	wantFlying(t, w, "Commit 0>2 #1")
}

func TestOneVoteTwice(t *testing.T) { // P6: the votes of all members are needed, each once
	w := world(t, 3)
	begin(t, w, 1, 1, 0, 1, 2, 0, 1, 3, 0, 1)
	deliver(t, w, 0, 0, 0)
	double(t, w, 0, 0, 1, 1)
	drop(t, w, 2)
	wantFlying(t, w, "Yes 1>0 #1, Yes 2>0 #1, Yes 1>0 #1, Yes 1>0 #1, Yes 2>0 #1, Yes 2>0 #1")
	deliverAll(t, w)
	wantLogs(t, w, "1b", "1p", "1p", "1p")
}

func TestNoTwice(t *testing.T) { // P6: the second No finds Aborted: nothing
	w := world(t, 1)
	begin(t, w, 1, 1, 0, 1)
	begin(t, w, 2, 1, 0, 2)
	deliver(t, w, 0, 0)
	double(t, w, 1)
	deliver(t, w, 1)
	wantFlying(t, w, "Yes 1>0 #1, No 1>0 #2, Abort 0>1 #2")
	deliver(t, w, 1)
	wantFlying(t, w, "Yes 1>0 #1, Abort 0>1 #2")
	wantLogs(t, w, "1b 2b 2a", "1p 2a")
}
