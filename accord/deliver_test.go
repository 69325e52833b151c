package accord_test

import (
	"testing"

	"accord/api"
)

func TestExample(t *testing.T) { // the first of the examples, as far as nothing goes wrong
	w := world(t, 2)
	begin(t, w, 1, 1, 0, 5, 2, 3, 7)
	wantFlying(t, w, "Prepare 0>1 #1, Prepare 0>2 #1")
	deliver(t, w, 0)
	wantLogs(t, w, "1b", "1p", "")
	wantFlying(t, w, "Prepare 0>2 #1, Yes 1>0 #1")
	wantKey(t, w, 1, 0, 0, 1)
	deliver(t, w, 0, 0)
	wantLogs(t, w, "1b", "1p", "1p")
	wantFlying(t, w, "Yes 2>0 #1")
	deliver(t, w, 0)
	wantLogs(t, w, "1b 1c", "1p", "1p")
	wantFlying(t, w, "Commit 0>1 #1, Commit 0>2 #1")
	deliver(t, w, 0)
	wantKey(t, w, 1, 0, 5, 0)
	wantKey(t, w, 2, 3, 0, 1)
	wantLogs(t, w, "1b 1c", "1p 1c", "1p")
	deliver(t, w, 0)
	wantKey(t, w, 2, 3, 7, 0)
	wantLogs(t, w, "1b 1c", "1p 1c", "1p 1c")
	wantFlying(t, w, "")
}

func TestDeliverRefuses(t *testing.T) { // P1, P6
	w := world(t, 2)
	for _, i := range append(extremes(), 0) {
		if errno := w.Deliver(i); errno != api.ErrNone {
			t.Errorf("Deliver(%d) of none = %d, want ErrNone", i, errno)
		}
	}
	begin(t, w, 1, 1, 0, 1, 2, 0, 1)
	before := picture(t, w, 2, 1)
	for _, i := range append(extremes(), 2, api.MaxFlying) {
		if errno := w.Deliver(i); errno != api.ErrNone {
			t.Errorf("Deliver(%d) of two = %d, want ErrNone", i, errno)
		}
	}
	if after := picture(t, w, 2, 1); after != before {
		t.Errorf("refusals have changed the world from\n%s to\n%s", before, after)
	}
}

func TestDeliverFromTheMiddle(t *testing.T) { // P4, P6: the others keep their order
	w := world(t, 3)
	begin(t, w, 1, 1, 0, 1, 2, 0, 1, 3, 0, 1)
	deliver(t, w, 1)
	wantFlying(t, w, "Prepare 0>1 #1, Prepare 0>3 #1, Yes 2>0 #1")
	deliver(t, w, 1)
	wantFlying(t, w, "Prepare 0>1 #1, Yes 2>0 #1, Yes 3>0 #1")
	deliver(t, w, 2, 1)
	wantLogs(t, w, "1b", "", "1p", "1p")
	wantFlying(t, w, "Prepare 0>1 #1")
	deliver(t, w, 0, 0)
	wantLogs(t, w, "1b 1c", "1p", "1p", "1p")
	wantFlying(t, w, "Commit 0>1 #1, Commit 0>2 #1, Commit 0>3 #1")
}

func TestVotesAreOfTheirTransaction(t *testing.T) { // P6, P7: a Yes of another transaction does not count
	w := world(t, 2)
	begin(t, w, 1, 1, 0, 1, 2, 0, 1)
	begin(t, w, 2, 1, 1, 2, 2, 1, 2)
	deliver(t, w, 0, 2) // part 1 of the first one, part 2 of the second one
	wantFlying(t, w, "Prepare 0>2 #1, Prepare 0>1 #2, Yes 1>0 #1, Yes 2>0 #2")
	deliver(t, w, 2, 2)
	wantLogs(t, w, "1b 2b", "1p", "2p")
	deliver(t, w, 1, 1)
	wantLogs(t, w, "1b 2b 2c", "1p 2p", "2p")
	wantFlying(t, w, "Prepare 0>2 #1, Commit 0>1 #2, Commit 0>2 #2")
}

func TestClash(t *testing.T) { // P6: the key is held: Aborted, No, and Abort to all members
	w := world(t, 3)
	begin(t, w, 1, 1, 2, 10)
	begin(t, w, 2, 3, 0, 20, 1, 2, 21, 1, 3, 22)
	deliver(t, w, 0, 0)
	wantLogs(t, w, "1b 2b", "1p 2a", "", "")
	wantFlying(t, w, "Prepare 0>3 #2, Yes 1>0 #1, No 1>0 #2")
	wantKey(t, w, 1, 2, 0, 1)
	wantKey(t, w, 1, 3, 0, 0)
	deliver(t, w, 2)
	wantLogs(t, w, "1b 2b 2a", "1p 2a", "", "")
	wantFlying(t, w, "Prepare 0>3 #2, Yes 1>0 #1, Abort 0>1 #2, Abort 0>3 #2")
	deliver(t, w, 2) // Aborted already: nothing
	wantLogs(t, w, "1b 2b 2a", "1p 2a", "", "")
	deliver(t, w, 0, 1) // Prepared, and Aborted then
	wantLogs(t, w, "1b 2b 2a", "1p 2a", "", "2p 2a")
	wantFlying(t, w, "Yes 1>0 #1, Yes 3>0 #2")
	deliver(t, w, 1) // a Yes that comes too late: nothing
	deliver(t, w, 0, 0)
	wantLogs(t, w, "1b 2b 2a 1c", "1p 2a 1c", "", "2p 2a")
	wantFlying(t, w, "")
	wantKey(t, w, 1, 2, 10, 0)
	wantKey(t, w, 3, 0, 0, 0)
}

func TestAbortAheadOfPrepare(t *testing.T) { // P6: Unknown is Aborted, Prepare then gets No
	w := world(t, 2)
	begin(t, w, 1, 1, 0, 1)
	begin(t, w, 2, 1, 0, 2, 2, 0, 2)
	deliver(t, w, 0, 0, 2)
	wantFlying(t, w, "Prepare 0>2 #2, Yes 1>0 #1, Abort 0>1 #2, Abort 0>2 #2")
	deliver(t, w, 3)
	wantLogs(t, w, "1b 2b 2a", "1p 2a", "2a")
	deliver(t, w, 0)
	wantLogs(t, w, "1b 2b 2a", "1p 2a", "2a")
	wantFlying(t, w, "Yes 1>0 #1, Abort 0>1 #2, No 2>0 #2")
	deliver(t, w, 2) // the coordinator has Aborted: nothing
	wantLogs(t, w, "1b 2b 2a", "1p 2a", "2a")
	wantFlying(t, w, "Yes 1>0 #1, Abort 0>1 #2")
}

func TestTwoNos(t *testing.T) { // P6: the second No finds Aborted: nothing
	w := world(t, 2)
	begin(t, w, 1, 1, 0, 1, 2, 0, 1)
	begin(t, w, 2, 1, 0, 2, 2, 0, 2)
	deliver(t, w, 0, 0, 0, 0)
	wantFlying(t, w, "Yes 1>0 #1, Yes 2>0 #1, No 1>0 #2, No 2>0 #2")
	deliver(t, w, 3, 2)
	wantLogs(t, w, "1b 2b 2a", "1p 2a", "1p 2a")
	wantFlying(t, w, "Yes 1>0 #1, Yes 2>0 #1, Abort 0>1 #2, Abort 0>2 #2")
}

func TestNoClash(t *testing.T) { // P6: other keys, other parts, and keys that are free again
	w := world(t, 2)
	begin(t, w, 1, 1, 0, 1)
	begin(t, w, 2, 1, 1, 2, 2, 0, 2)
	deliver(t, w, 0, 0, 0)
	wantLogs(t, w, "1b 2b", "1p 2p", "2p")
	wantKey(t, w, 1, 0, 0, 1)
	wantKey(t, w, 1, 1, 0, 2)
	wantKey(t, w, 2, 0, 0, 2)
	wantKey(t, w, 2, 1, 0, 0)
	deliverAll(t, w)
	begin(t, w, 3, 1, 0, 3, 1, 1, 3, 2, 0, 3)
	deliverAll(t, w)
	wantKey(t, w, 1, 0, 3, 0)
	wantKey(t, w, 1, 1, 3, 0)
	wantKey(t, w, 2, 0, 3, 0)
}

func TestAbortFreesKeys(t *testing.T) { // P6, P11: what is Aborted holds nothing, and has given nothing
	w := world(t, 2)
	begin(t, w, 1, 1, 0, 1)
	begin(t, w, 2, 1, 0, 2, 2, 0, 2)
	deliver(t, w, 2) // part 2 is Prepared
	wantKey(t, w, 2, 0, 0, 2)
	deliverAll(t, w)
	wantLogs(t, w, "1b 2b 1c 2a", "1p 2a 1c", "2p 2a")
	wantKey(t, w, 2, 0, 0, 0)
	begin(t, w, 3, 2, 0, 3)
	deliverAll(t, w)
	wantKey(t, w, 2, 0, 3, 0)
}

func TestFiveParts(t *testing.T) { // P5, P6: MaxParts members, all votes are needed
	w := world(t, 5)
	begin(t, w, 1, 5, 0, 5, 3, 0, 3, 1, 0, 1, 2, 0, 2, 4, 0, 4)
	wantFlying(t, w, "Prepare 0>1 #1, Prepare 0>2 #1, Prepare 0>3 #1, Prepare 0>4 #1, Prepare 0>5 #1")
	deliver(t, w, 4, 3, 2, 1, 0)
	wantFlying(t, w, "Yes 5>0 #1, Yes 4>0 #1, Yes 3>0 #1, Yes 2>0 #1, Yes 1>0 #1")
	deliver(t, w, 0, 0, 0, 0)
	wantLogs(t, w, "1b", "1p", "1p", "1p", "1p", "1p")
	deliver(t, w, 0)
	wantFlying(t, w, "Commit 0>1 #1, Commit 0>2 #1, Commit 0>3 #1, Commit 0>4 #1, Commit 0>5 #1")
	deliver(t, w, 2)
	wantLogs(t, w, "1b 1c", "1p", "1p", "1p 1c", "1p", "1p")
	deliverAll(t, w)
	for part := 1; part <= 5; part++ {
		wantKey(t, w, part, 0, part, 0)
	}
}

func TestOnePart(t *testing.T) { // P5, P6: one part, all its keys
	w := world(t, 1)
	begin(t, w, 1, 1, 3, 33, 1, 2, 32, 1, 1, 31, 1, 0, 30)
	wantFlying(t, w, "Prepare 0>1 #1")
	deliver(t, w, 0)
	for key := range api.Keys {
		wantKey(t, w, 1, key, 0, 1)
	}
	deliver(t, w, 0)
	wantFlying(t, w, "Commit 0>1 #1")
	deliver(t, w, 0)
	for key := range api.Keys {
		wantKey(t, w, 1, key, 30+key, 0)
	}
	wantLogs(t, w, "1b 1c", "1p 1c")
}
