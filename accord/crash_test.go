package accord_test

import (
	"testing"

	"accord/api"
)

func TestCrashExample(t *testing.T) { // the first of the examples, from where the coordinator crashes
	w := world(t, 2)
	begin(t, w, 1, 1, 0, 5, 2, 3, 7)
	deliver(t, w, 0, 0, 0, 0, 0)
	wantKey(t, w, 1, 0, 5, 0)
	crash(t, w, 0)
	wantLogs(t, w, "1b 1c", "1p 1c", "1p")
	drop(t, w, 0)
	tick(t, w, 2)
	wantFlying(t, w, "Ask 2>0 #1, Ask 2>1 #1")
	deliver(t, w, 0) // lost
	wantFlying(t, w, "Ask 2>1 #1")
	deliver(t, w, 0)
	wantFlying(t, w, "Commit 1>2 #1")
	deliver(t, w, 0)
	wantKey(t, w, 2, 3, 7, 0)
	wantUp(t, w, "-uu")
}

func TestFuseExample(t *testing.T) { // the second of the examples
	w := world(t, 2)
	fuse(t, w, 0, 2)
	begin(t, w, 1, 1, 0, 1, 2, 0, 1)
	wantUp(t, w, "-uu")
	wantLogs(t, w, "1b", "", "")
	wantFlying(t, w, "Prepare 0>1 #1")
	comeUp(t, w, 0)
	wantUp(t, w, "uuu")
	wantLogs(t, w, "1b 1a", "", "")
	wantFlying(t, w, "Prepare 0>1 #1, Abort 0>1 #1, Abort 0>2 #1")
}

func TestNoSuchNodeRefuses(t *testing.T) { // P1, P9, P10
	w := world(t, 2)
	begin(t, w, 1, 1, 0, 1, 2, 0, 1)
	deliver(t, w, 0)
	crash(t, w, 2)
	before := picture(t, w, 2, 1)
	for _, node := range append(extremes(), 3, api.MaxParts) {
		for _, errno := range []api.Errno{w.Crash(node), w.Recover(node), w.Fuse(node, 0), w.Fuse(node, -1), w.Fuse(node, 7)} {
			if errno != api.ErrArg {
				t.Errorf("of node %d: %d, want ErrArg", node, errno)
			}
		}
		if is, errno := w.Up(node); is || errno != api.ErrArg {
			t.Errorf("Up(%d) = %t, %d, want false, ErrArg", node, is, errno)
		}
	}
	if after := picture(t, w, 2, 1); after != before {
		t.Errorf("refusals have changed the world from\n%s to\n%s", before, after)
	}
}

func TestDownRefuses(t *testing.T) { // P1, P8, P9: ErrDown of a node that is down, ahead of acts that may not be
	w := world(t, 2)
	begin(t, w, 1, 1, 0, 1, 2, 0, 1)
	deliver(t, w, 0)
	crash(t, w, 0, 1, 2)
	before := picture(t, w, 2, 1)
	for node := range 3 {
		for i, errno := range []api.Errno{w.Crash(node), w.Tick(node), w.Fuse(node, 0), w.Fuse(node, 3), w.Fuse(node, -1)} {
			if errno != api.ErrDown {
				t.Errorf("call %d of node %d, which is down: %d, want ErrDown", i, node, errno)
			}
		}
	}
	if after := picture(t, w, 2, 1); after != before {
		t.Errorf("refusals have changed the world from\n%s to\n%s", before, after)
	}
	comeUp(t, w, 1)
	tick(t, w, 1) // a fuse that was refused is none
	wantFlying(t, w, "Prepare 0>2 #1, Yes 1>0 #1, Ask 1>0 #1, Ask 1>2 #1")
}

func TestUpRefuses(t *testing.T) { // P1, P10: ErrDown of a node that is not down
	w := world(t, 2)
	begin(t, w, 1, 1, 0, 1, 2, 0, 1)
	deliver(t, w, 0)
	before := picture(t, w, 2, 1)
	for node := range 3 {
		if errno := w.Recover(node); errno != api.ErrDown {
			t.Errorf("Recover(%d) of a node that is up = %d, want ErrDown", node, errno)
		}
	}
	if after := picture(t, w, 2, 1); after != before {
		t.Errorf("refusals have changed the world from\n%s to\n%s", before, after)
	}
	deliverAll(t, w)
	wantLogs(t, w, "1b 1c", "1p 1c", "1p 1c") // the votes are not forgotten either
}

func TestBeginRefusesWhenDown(t *testing.T) { // P1, P5: ErrArg, then ErrDown, then ErrFull
	w := world(t, 1)
	refuses := func(trans int, writes []api.Write, want api.Errno) {
		t.Helper()
		before := picture(t, w, 1, trans)
		if n, errno := w.Begin(writes); n != 0 || errno != want {
			t.Errorf("Begin(%v) = %d, %d, want 0, %d", writes, n, errno, want)
		}
		if after := picture(t, w, 1, trans); after != before {
			t.Errorf("a refusal has changed the world from\n%s to\n%s", before, after)
		}
		if _, errno := w.State(1, trans+1); errno != api.ErrArg {
			t.Errorf("Begin was refused, and there is a transaction %d", trans+1)
		}
	}
	crash(t, w, 0)
	refuses(0, puts(1, 0, 1), api.ErrDown)
	refuses(0, puts(2, 0, 1), api.ErrArg)
	refuses(0, nil, api.ErrArg)
	comeUp(t, w, 0)
	crash(t, w, 1)
	for trans := 1; trans <= api.MaxTrans; trans++ { // a part that is down does not matter
		begin(t, w, trans, 1, 0, trans)
	}
	refuses(api.MaxTrans, puts(1, 0, 1), api.ErrFull)
	crash(t, w, 0)
	refuses(api.MaxTrans, puts(1, 0, 1), api.ErrDown)
	refuses(api.MaxTrans, nil, api.ErrArg)
}

func TestUp(t *testing.T) { // P3, P9, P10: each node by itself
	w := world(t, 5)
	wantUp(t, w, "uuuuuu")
	crash(t, w, 3)
	wantUp(t, w, "uuu-uu")
	crash(t, w, 0, 5)
	wantUp(t, w, "-uu-u-")
	comeUp(t, w, 3)
	wantUp(t, w, "-uuuu-")
	crash(t, w, 3)
	comeUp(t, w, 0)
	wantUp(t, w, "uuu-u-")
}

func TestAskedWhenDown(t *testing.T) { // P9, P11: no crash touches a log, nor what follows from it
	w := world(t, 2)
	begin(t, w, 1, 1, 0, 5, 2, 3, 7)
	deliverAll(t, w)
	begin(t, w, 2, 1, 0, 6, 2, 2, 8)
	deliver(t, w, 0, 0)
	for node := range 3 {
		crash(t, w, node)
		wantLogs(t, w, "1b 1c 2b", "1p 1c 2p", "1p 1c 2p")
		wantKey(t, w, 1, 0, 5, 2)
		wantKey(t, w, 2, 3, 7, 0)
		wantKey(t, w, 2, 2, 0, 2)
		wantFlying(t, w, "Yes 1>0 #2, Yes 2>0 #2") // what is on its way comes, whoever has sent it
	}
	if s := state(t, w, 0, 2); s != api.Begun {
		t.Errorf("State(0, 2) = %d, want Begun", s)
	}
}

func TestDeliverToADownNode(t *testing.T) { // P6: whatever comes is lost, and nothing is done
	w := world(t, 2)
	begin(t, w, 1, 1, 0, 1, 2, 0, 2)
	begin(t, w, 2, 1, 1, 1, 2, 1, 2)
	begin(t, w, 3, 1, 0, 3)
	deliver(t, w, 0, 0, 0, 1) // of the first one both, of the second one part 1; the third one's is refused
	wantFlying(t, w, "Prepare 0>2 #2, Yes 1>0 #1, Yes 2>0 #1, Yes 1>0 #2, No 1>0 #3")
	double(t, w, 0, 1, 2, 3, 4)
	crash(t, w, 0, 2)
	deliver(t, w, 0)
	wantFlying(t, w, "Yes 1>0 #1, Yes 2>0 #1, Yes 1>0 #2, No 1>0 #3, Prepare 0>2 #2, Yes 1>0 #1, Yes 2>0 #1, Yes 1>0 #2, No 1>0 #3")
	deliver(t, w, 1, 2)
	wantFlying(t, w, "Yes 1>0 #1, Yes 1>0 #2, Prepare 0>2 #2, Yes 1>0 #1, Yes 2>0 #1, Yes 1>0 #2, No 1>0 #3")
	tick(t, w, 1)
	deliverAll(t, w) // Ask too
	wantLogs(t, w, "1b 2b 3b", "1p 2p 3a", "1p")
	wantFlying(t, w, "")
	if errno := w.Deliver(0); errno != api.ErrNone {
		t.Errorf("Deliver(0) of none to a node that is down = %d, want ErrNone", errno)
	}
}

func TestSettlingOfADownPart(t *testing.T) { // P6: Commit and Abort are lost too; it asks when it is up again
	w := world(t, 2)
	begin(t, w, 1, 1, 0, 1, 2, 0, 2)
	begin(t, w, 2, 1, 1, 1, 2, 1, 2)
	deliver(t, w, 0, 0, 0, 0)
	drop(t, w, 3)
	deliver(t, w, 0, 0)
	tick(t, w, 0)
	wantFlying(t, w, "Yes 1>0 #2, Commit 0>1 #1, Commit 0>2 #1, Abort 0>1 #2, Abort 0>2 #2")
	crash(t, w, 1)
	deliverAll(t, w)
	wantLogs(t, w, "1b 2b 1c 2a", "1p 2p", "1p 2p 1c 2a")
	comeUp(t, w, 1)
	wantLogs(t, w, "1b 2b 1c 2a", "1p 2p", "1p 2p 1c 2a")
	wantFlying(t, w, "")
	wantKey(t, w, 1, 0, 0, 1) // what it holds, it holds
	crash(t, w, 0)
	tick(t, w, 1)
	wantFlying(t, w, "Ask 1>0 #1, Ask 1>2 #1, Ask 1>0 #2, Ask 1>2 #2")
	deliverAll(t, w)
	wantLogs(t, w, "1b 2b 1c 2a", "1p 2p 1c 2a", "1p 2p 1c 2a")
	wantKey(t, w, 1, 0, 1, 0)
	wantKey(t, w, 1, 1, 0, 0)
}

func TestDropAndDoubleWhenDown(t *testing.T) { // P4: what is flying hangs on no node
	w := world(t, 2)
	begin(t, w, 1, 1, 0, 1, 2, 0, 2)
	crash(t, w, 0, 1, 2)
	double(t, w, 0)
	wantFlying(t, w, "Prepare 0>1 #1, Prepare 0>2 #1, Prepare 0>1 #1")
	drop(t, w, 0)
	wantFlying(t, w, "Prepare 0>2 #1, Prepare 0>1 #1")
	comeUp(t, w, 1, 2)
	deliver(t, w, 1, 0)
	wantLogs(t, w, "1b", "1p", "1p")
}

func TestRecoverOfTheCoordinator(t *testing.T) { // P10: what is Begun is Aborted, by rising numbers, and nothing else is
	w := world(t, 4)
	fuse(t, w, 0, 0)
	begin(t, w, 1, 1, 3, 1) // of this one it knows nothing
	comeUp(t, w, 0)
	wantLogs(t, w, "", "", "", "", "")
	begin(t, w, 2, 4, 0, 2, 2, 0, 2)
	begin(t, w, 3, 1, 0, 3)
	begin(t, w, 4, 1, 0, 4)
	begin(t, w, 5, 3, 1, 5, 1, 1, 5, 3, 2, 5)
	deliver(t, w, 2, 2, 4, 4) // the third one is Committed, the fourth one Aborted
	for len(w.Flying()) > 0 {
		drop(t, w, 0)
	}
	crash(t, w, 0)
	wantLogs(t, w, "2b 3b 4b 5b 3c 4a", "3p 4a", "", "", "")
	wantFlying(t, w, "")
	comeUp(t, w, 0)
	wantLogs(t, w, "2b 3b 4b 5b 3c 4a 2a 5a", "3p 4a", "", "", "")
	wantFlying(t, w, "Abort 0>2 #2, Abort 0>4 #2, Abort 0>1 #5, Abort 0>3 #5")
	crash(t, w, 0)
	comeUp(t, w, 0) // there is nothing left
	wantLogs(t, w, "2b 3b 4b 5b 3c 4a 2a 5a", "3p 4a", "", "", "")
	wantFlying(t, w, "Abort 0>2 #2, Abort 0>4 #2, Abort 0>1 #5, Abort 0>3 #5")
}

func TestRecoverOfAPart(t *testing.T) { // P10: it is up, and does nothing
	w := world(t, 2)
	begin(t, w, 1, 1, 0, 1, 2, 0, 1)
	begin(t, w, 2, 1, 1, 2)
	deliver(t, w, 0, 0)
	crash(t, w, 1, 2)
	before := picture(t, w, 2, 2)
	comeUp(t, w, 1)
	crash(t, w, 1)
	if after := picture(t, w, 2, 2); after != before {
		t.Errorf("a part that came up has changed the world from\n%s to\n%s", before, after)
	}
	comeUp(t, w, 1, 2)
	deliverAll(t, w)
	wantLogs(t, w, "1b 2b 1c 2c", "1p 2p 1c 2c", "1p 1c")
}

func TestVotesAreForgottenByTheCoordinatorAlone(t *testing.T) { // P9: parts that crash take no vote back
	w := world(t, 3)
	begin(t, w, 1, 1, 0, 1, 2, 0, 1, 3, 0, 1)
	deliver(t, w, 0, 0, 0, 0, 0)
	crash(t, w, 1, 2, 3)
	deliver(t, w, 0)
	wantLogs(t, w, "1b 1c", "1p", "1p", "1p")
	wantFlying(t, w, "Commit 0>1 #1, Commit 0>2 #1, Commit 0>3 #1")
}

func TestYesToACoordinatorThatCameBack(t *testing.T) { // P10, P12: what it has aborted stays so, all votes or not
	w := world(t, 2)
	begin(t, w, 1, 1, 0, 1, 2, 0, 1)
	deliver(t, w, 0, 0)
	double(t, w, 0)
	deliver(t, w, 0)
	crash(t, w, 0)
	comeUp(t, w, 0)
	wantFlying(t, w, "Yes 2>0 #1, Yes 1>0 #1, Abort 0>1 #1, Abort 0>2 #1")
	deliverAll(t, w)
	wantLogs(t, w, "1b 1a", "1p 1a", "1p 1a")
}
