package accord_test

import (
	"fmt"
	"iter"
	"slices"
	"strings"
	"testing"

	"accord/accord"
	"accord/api"
)

// entry tells a node and its record as '2:1p'.
func entry(node int, r api.Record) string {
	return fmt.Sprintf("%d:%s", node, record(r))
}

// given is what an iterator gives, gone through to its end.
func given(seq iter.Seq2[int, api.Record]) string {
	return givenWhile(seq, func() {})
}

// givenWhile is what an iterator gives to its end, where something is done at each record.
func givenWhile(seq iter.Seq2[int, api.Record], does func()) string {
	var list []string
	for node, r := range seq {
		list = append(list, entry(node, r))
		does()
	}
	return strings.Join(list, " ")
}

// givenFirst is what an iterator gives, left after so many records.
func givenFirst(seq iter.Seq2[int, api.Record], records int) string {
	var list []string
	for node, r := range seq {
		if len(list) == records {
			break
		}
		list = append(list, entry(node, r))
	}
	return strings.Join(list, " ")
}

func wantRecords(t *testing.T, w *accord.World, want string) {
	t.Helper()
	if got := given(w.Records()); got != want {
		t.Fatalf("the records are '%s', want '%s'", got, want)
	}
}

// fromLogs is what Records must give, after what Log tells.
func fromLogs(w *accord.World, parts int) string {
	var list []string
	for node := 0; node <= parts; node++ {
		log, _ := w.Log(node)
		for _, r := range log {
			list = append(list, entry(node, r))
		}
	}
	return strings.Join(list, " ")
}

// halfDone is a world of three parts: the first transaction is committed at part 1, and part 3 is prepared for it; the second one is aborted at part 1 alone; part 2 has written nothing.
func halfDone(t *testing.T) *accord.World {
	t.Helper()
	w := world(t, 3)
	begin(t, w, 1, 3, 0, 5, 1, 0, 7)
	deliver(t, w, 0)
	begin(t, w, 2, 2, 1, 9, 1, 0, 8)
	deliver(t, w, 2, 0, 0, 2, 2)
	wantFlying(t, w, "Prepare 0>2 #2, No 1>0 #2, Commit 0>3 #1")
	return w
}

const halfDoneRecords = "0:1b 0:2b 0:1c 1:1p 1:2a 1:1c 3:1p"

func TestRecordsOfNothing(t *testing.T) { // P11: no records, whatever is refused or lost
	for parts := 1; parts <= api.MaxParts; parts++ {
		w := world(t, parts)
		wantRecords(t, w, "")
		w.Begin(puts(parts+1, 0, 1))
		w.Deliver(0)
		tick(t, w, 0, parts)
		crash(t, w, 0, parts)
		comeUp(t, w, parts, 0)
		wantRecords(t, w, "")
	}
}

func TestRecordsNodeByNode(t *testing.T) { // P11
	w := world(t, 2)
	begin(t, w, 1, 1, 0, 5, 2, 3, 7)
	wantRecords(t, w, "0:1b")
	deliver(t, w, 1) // part 2 has written something ahead of part 1
	wantRecords(t, w, "0:1b 2:1p")
	deliver(t, w, 0)
	wantRecords(t, w, "0:1b 1:1p 2:1p")
	deliver(t, w, 0, 0)
	wantRecords(t, w, "0:1b 0:1c 1:1p 2:1p")
	deliver(t, w, 1)
	wantRecords(t, w, "0:1b 0:1c 1:1p 2:1p 2:1c")
	deliver(t, w, 0)
	wantRecords(t, w, "0:1b 0:1c 1:1p 1:1c 2:1p 2:1c")
	wantRecords(t, halfDone(t), halfDoneRecords)
}

func TestRecordsOfNodesThatAreDown(t *testing.T) { // P11: whether the node is up or down
	w := halfDone(t)
	for _, node := range []int{3, 0, 2, 1} {
		crash(t, w, node)
		wantRecords(t, w, halfDoneRecords)
	}
	comeUp(t, w, 1, 2, 3)
	wantRecords(t, w, halfDoneRecords)
	comeUp(t, w, 0) // it aborts the second one
	wantRecords(t, w, "0:1b 0:2b 0:1c 0:2a 1:1p 1:2a 1:1c 3:1p")
}

func TestRecordsLeftEarly(t *testing.T) { // P11: at each record, by break and by the answer false
	w := halfDone(t)
	seq := w.Records()
	records := strings.Fields(halfDoneRecords)
	for early := range len(records) + 2 {
		want := strings.Join(records[:min(early, len(records))], " ")
		if got := givenFirst(seq, early); got != want {
			t.Errorf("the first %d records are '%s', want '%s'", early, got, want)
		}
		if got := given(seq); got != halfDoneRecords {
			t.Errorf("left after %d records and gone through again, it gives '%s'", early, got)
		}
		asked := 0
		seq(func(int, api.Record) bool {
			asked++
			return asked <= early
		})
		if want := min(early+1, len(records)); asked != want {
			t.Errorf("%d records are given, want %d, where the answer to number %d is false", asked, want, early+1)
		}
	}
}

func TestRecordsGoneThroughAgain(t *testing.T) { // P11: as they are when that begins, not when Records answered
	w := world(t, 2)
	seq, other := w.Records(), w.Records()
	want := func(records string) {
		t.Helper()
		for _, s := range []iter.Seq2[int, api.Record]{seq, seq, other, w.Records()} {
			if got := given(s); got != records {
				t.Fatalf("the records are '%s', want '%s'", got, records)
			}
		}
	}
	want("")
	begin(t, w, 1, 1, 0, 5)
	want("0:1b")
	deliver(t, w, 0)
	want("0:1b 1:1p")
	givenFirst(seq, 1)
	crash(t, w, 0)
	want("0:1b 1:1p")
	comeUp(t, w, 0)
	want("0:1b 0:1a 1:1p")
	deliverAll(t, w)
	want("0:1b 0:1a 1:1p 1:1a")
}

// meanwhile are calls that write something down in a world that is half done: at the node that is gone through, behind it, ahead of it, and at one that had no record.
func meanwhile() map[string]func(*accord.World) {
	return map[string]func(*accord.World){
		"Begin":                         func(w *accord.World) { w.Begin(puts(1, 3, 1, 2, 3, 1)) },
		"Deliver, to the first":         func(w *accord.World) { w.Deliver(1) },
		"Deliver, to the last":          func(w *accord.World) { w.Deliver(2) },
		"Deliver, to one that has none": func(w *accord.World) { w.Deliver(0) },
		"Tick":                          func(w *accord.World) { w.Tick(0) },
		"Crash and Recover":             func(w *accord.World) { w.Crash(0); w.Recover(0) },
		"Fuse":                          func(w *accord.World) { w.Fuse(0, 1); w.Begin(puts(1, 2, 3)) },
	}
}

func TestRecordsMeanwhile(t *testing.T) { // P11: calls change nothing of what is given, and all of what is given next
	for name, call := range meanwhile() {
		w := halfDone(t)
		seq := w.Records()
		if got := givenWhile(seq, func() { call(w) }); got != halfDoneRecords {
			t.Errorf("%s meanwhile: the records are '%s', want '%s'", name, got, halfDoneRecords)
		}
		got, want := given(seq), fromLogs(w, 3)
		if got != want || got == halfDoneRecords {
			t.Errorf("%s: gone through again, the records are '%s', want '%s'", name, got, want)
		}
	}
}

func TestRecordsWithAllCallsMeanwhile(t *testing.T) { // P11, P1: each call ends
	w := halfDone(t)
	step := 0
	got := givenWhile(w.Records(), func() {
		step++
		for _, call := range stepCalls(step) {
			call(w)
		}
		w.Begin(puts(1+step%3, step%4, step))
		picture(t, w, 3, 2)
	})
	if got != halfDoneRecords {
		t.Errorf("the records are '%s', want '%s'", got, halfDoneRecords)
	}
	wantRecords(t, w, fromLogs(w, 3))
}

func TestRecordsLeaveTheWorldAlone(t *testing.T) { // P2: a going through is to be seen in nothing else
	w := halfDone(t)
	before := picture(t, w, 3, 2)
	given(w.Records())
	givenFirst(w.Records(), 3)
	if after := picture(t, w, 3, 2); after != before {
		t.Errorf("going through the records changes the world from\n%s to\n%s", before, after)
	}
}

func TestRecordsWithinRecords(t *testing.T) { // P11: each going through has its own beginning
	w := halfDone(t)
	seq := w.Records()
	var within []string
	outer := givenWhile(seq, func() {
		within = append(within, given(seq))
		w.Deliver(0)
	})
	if outer != halfDoneRecords {
		t.Errorf("the outer records are '%s', want '%s'", outer, halfDoneRecords)
	}
	want := []string{
		halfDoneRecords,
		"0:1b 0:2b 0:1c 1:1p 1:2a 1:1c 2:2p 3:1p",
		"0:1b 0:2b 0:1c 0:2a 1:1p 1:2a 1:1c 2:2p 3:1p",
		"0:1b 0:2b 0:1c 0:2a 1:1p 1:2a 1:1c 2:2p 3:1p 3:1c",
	}
	if within = within[:min(len(within), len(want))]; !slices.Equal(within, want) {
		t.Errorf("the inner records are %q, want %q", within, want)
	}
}

func TestRecordsPulled(t *testing.T) { // P11: two goings through, one record of each in turn
	w := halfDone(t)
	seq := w.Records()
	older, stopOlder := iter.Pull2(seq)
	defer stopOlder()
	if node, r, ok := older(); !ok || entry(node, r) != "0:1b" {
		t.Fatalf("the first record is %s, %t", entry(node, r), ok)
	}
	deliver(t, w, 0)
	newer, stopNewer := iter.Pull2(seq)
	defer stopNewer()
	var olds, news []string
	for range 8 {
		if node, r, ok := older(); ok {
			olds = append(olds, entry(node, r))
		}
		if node, r, ok := newer(); ok {
			news = append(news, entry(node, r))
		}
		tick(t, w, 0)
	}
	if got := "0:1b " + strings.Join(olds, " "); got != halfDoneRecords {
		t.Errorf("the older records are '%s', want '%s'", got, halfDoneRecords)
	}
	if got, want := strings.Join(news, " "), "0:1b 0:2b 0:1c 1:1p 1:2a 1:1c 2:2p 3:1p"; got != want {
		t.Errorf("the newer records are '%s', want '%s'", got, want)
	}
}
