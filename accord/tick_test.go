package accord_test

import (
	"strings"
	"testing"

	"accord/api"
)

func TestTickRefuses(t *testing.T) { // P1, P8
	w := world(t, 2)
	begin(t, w, 1, 1, 0, 1, 2, 0, 1)
	deliver(t, w, 0)
	before := picture(t, w, 2, 1)
	for _, node := range append(extremes(), 3) {
		if errno := w.Tick(node); errno != api.ErrArg {
			t.Errorf("Tick(%d) = %d, want ErrArg", node, errno)
		}
	}
	if after := picture(t, w, 2, 1); after != before {
		t.Errorf("refusals have changed the world from\n%s to\n%s", before, after)
	}
}

func TestTickOfNothing(t *testing.T) { // P8: no transaction, and those that are settled or were never heard of
	w := world(t, 2)
	tick(t, w, 0, 1, 2)
	wantLogs(t, w, "", "", "")
	wantFlying(t, w, "")
	begin(t, w, 1, 1, 0, 1)
	deliverAll(t, w)
	begin(t, w, 2, 1, 0, 2)
	tick(t, w, 2, 1)
	wantFlying(t, w, "Prepare 0>1 #2")
	tick(t, w, 0)
	deliverAll(t, w)
	wantLogs(t, w, "1b 1c 2b 2a", "1p 1c 2p 2a", "")
	before := picture(t, w, 2, 2)
	tick(t, w, 0, 1, 2)
	if after := picture(t, w, 2, 2); after != before {
		t.Errorf("patience that ends for nothing has changed the world from\n%s to\n%s", before, after)
	}
}

func TestTickOfTheCoordinator(t *testing.T) { // P8: what is Begun is Aborted, by rising numbers, and nothing else is
	w := world(t, 4)
	begin(t, w, 1, 4, 0, 1, 2, 0, 1)
	begin(t, w, 2, 1, 0, 2)
	begin(t, w, 3, 1, 0, 3)
	begin(t, w, 4, 3, 1, 4, 1, 1, 4, 3, 2, 4)
	deliver(t, w, 2, 2, 4, 4) // the second one is Committed, the third one Aborted
	wantFlying(t, w, "Prepare 0>2 #1, Prepare 0>4 #1, Prepare 0>1 #4, Prepare 0>3 #4, Commit 0>1 #2, Abort 0>1 #3")
	for len(w.Flying()) > 0 {
		drop(t, w, 0)
	}
	tick(t, w, 0)
	wantLogs(t, w, "1b 2b 3b 4b 2c 3a 1a 4a", "2p 3a", "", "", "")
	wantFlying(t, w, "Abort 0>2 #1, Abort 0>4 #1, Abort 0>1 #4, Abort 0>3 #4")
	tick(t, w, 0) // there is nothing left
	wantLogs(t, w, "1b 2b 3b 4b 2c 3a 1a 4a", "2p 3a", "", "", "")
	wantFlying(t, w, "Abort 0>2 #1, Abort 0>4 #1, Abort 0>1 #4, Abort 0>3 #4")
}

func TestTickAheadOfTheLastVote(t *testing.T) { // P6, P8: what is Aborted stays so
	w := world(t, 2)
	begin(t, w, 1, 1, 0, 1, 2, 0, 1)
	deliver(t, w, 0, 0, 0)
	wantFlying(t, w, "Yes 2>0 #1")
	tick(t, w, 0)
	deliver(t, w, 0)
	wantLogs(t, w, "1b 1a", "1p", "1p")
	wantFlying(t, w, "Abort 0>1 #1, Abort 0>2 #1")
	deliverAll(t, w)
	wantLogs(t, w, "1b 1a", "1p 1a", "1p 1a")
}

func TestTickOfAPart(t *testing.T) { // P8: it asks the coordinator and the other members of what is Prepared there
	w := world(t, 5)
	begin(t, w, 1, 3, 0, 1, 1, 0, 1, 5, 0, 1)
	begin(t, w, 2, 3, 1, 2)
	begin(t, w, 3, 3, 0, 3, 2, 0, 3)
	begin(t, w, 4, 4, 1, 4, 1, 1, 4)
	begin(t, w, 5, 3, 2, 5, 2, 2, 5)
	for len(w.Flying()) > 0 {
		if list := w.Flying(); list[0].To == 3 && list[0].Trans != 5 {
			deliver(t, w, 0)
			drop(t, w, len(list)-1) // its answer
		} else {
			drop(t, w, 0)
		}
	}
	wantLogs(t, w, "1b 2b 3b 4b 5b", "", "", "1p 2p 3a", "", "")
	for range 2 { // patience may end again and again
		tick(t, w, 3)
		wantFlying(t, w, "Ask 3>0 #1, Ask 3>1 #1, Ask 3>5 #1, Ask 3>0 #2")
		wantLogs(t, w, "1b 2b 3b 4b 5b", "", "", "1p 2p 3a", "", "")
		drop(t, w, 0, 0, 0, 0)
	}
}

func TestTickWhenFlyingIsFull(t *testing.T) { // P4, P8: what is lost is written down all the same
	w, told := crowd(t)
	drop(t, w, 0, 0)
	tick(t, w, 0)
	told = append(told[2:], "Abort 0>1 #1", "Abort 0>2 #1")
	wantFlying(t, w, strings.Join(told, ", "))
	for trans := 1; trans <= api.MaxTrans; trans++ {
		if s := state(t, w, 0, trans); s != api.Aborted {
			t.Errorf("the coordinator's state of %d is %d, want Aborted", trans, s)
		}
	}
	deliver(t, w, 0) // part 3 is Prepared, its Yes is the last one
	tick(t, w, 3)
	wantFlying(t, w, strings.Join(append(told[1:], "Yes 3>0 #1"), ", "))
	drop(t, w, 0)
	tick(t, w, 3)
	wantFlying(t, w, strings.Join(append(told[2:], "Yes 3>0 #1", "Ask 3>0 #1"), ", "))
}

func TestAskIsAnswered(t *testing.T) { // P6: by whoever knows, to the one that asks
	w := world(t, 3)
	begin(t, w, 1, 1, 0, 1, 2, 0, 2, 3, 0, 3)
	deliver(t, w, 0, 0, 0, 0, 0, 0)
	drop(t, w, 0)
	deliver(t, w, 0)
	drop(t, w, 0)
	wantLogs(t, w, "1b 1c", "1p", "1p 1c", "1p")
	tick(t, w, 1)
	wantFlying(t, w, "Ask 1>0 #1, Ask 1>2 #1, Ask 1>3 #1")
	deliver(t, w, 2) // part 3 does not know either
	wantFlying(t, w, "Ask 1>0 #1, Ask 1>2 #1")
	deliver(t, w, 1)
	wantFlying(t, w, "Ask 1>0 #1, Commit 2>1 #1")
	deliver(t, w, 0)
	wantFlying(t, w, "Commit 2>1 #1, Commit 0>1 #1")
	deliverAll(t, w)
	wantLogs(t, w, "1b 1c", "1p 1c", "1p 1c", "1p")
	wantKey(t, w, 1, 0, 1, 0)
	tick(t, w, 3)
	deliverAll(t, w)
	wantLogs(t, w, "1b 1c", "1p 1c", "1p 1c", "1p 1c")
}

func TestAskOfWhoWasNeverAsked(t *testing.T) { // P6: it aborts, and so does all that hangs on it
	w := world(t, 2)
	begin(t, w, 1, 1, 0, 1, 2, 0, 2)
	deliver(t, w, 0)
	tick(t, w, 1)
	wantFlying(t, w, "Prepare 0>2 #1, Yes 1>0 #1, Ask 1>0 #1, Ask 1>2 #1")
	deliver(t, w, 2) // the coordinator is Begun: nothing
	wantFlying(t, w, "Prepare 0>2 #1, Yes 1>0 #1, Ask 1>2 #1")
	deliver(t, w, 2)
	wantLogs(t, w, "1b", "1p", "1a")
	wantFlying(t, w, "Prepare 0>2 #1, Yes 1>0 #1, Abort 2>1 #1")
	deliver(t, w, 2)
	wantLogs(t, w, "1b", "1p 1a", "1a")
	wantKey(t, w, 1, 0, 0, 0)
	deliver(t, w, 0) // Prepare comes too late
	wantFlying(t, w, "Yes 1>0 #1, No 2>0 #1")
	deliverAll(t, w)
	wantLogs(t, w, "1b 1a", "1p 1a", "1a")
}

func TestAskOfWhatIsAborted(t *testing.T) { // P6
	w := world(t, 2)
	begin(t, w, 1, 1, 0, 1, 2, 0, 2)
	deliver(t, w, 0, 0)
	tick(t, w, 0, 2)
	wantFlying(t, w, "Yes 1>0 #1, Yes 2>0 #1, Abort 0>1 #1, Abort 0>2 #1, Ask 2>0 #1, Ask 2>1 #1")
	drop(t, w, 3)
	deliver(t, w, 2, 2, 2)
	wantFlying(t, w, "Yes 1>0 #1, Yes 2>0 #1, Abort 0>2 #1, Abort 1>2 #1")
	deliver(t, w, 3)
	wantLogs(t, w, "1b 1a", "1p 1a", "1p 1a")
}
