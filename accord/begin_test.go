package accord_test

import (
	"fmt"
	"math"
	"strings"
	"testing"

	"accord/accord"
	"accord/api"
)

func TestNewRefuses(t *testing.T) { // P3
	for _, parts := range append(extremes(), 0, api.MaxParts+1) {
		if w, errno := accord.New(parts); w != nil || errno != api.ErrArg {
			t.Errorf("New(%d) answers a world or %d, want ErrArg", parts, errno)
		}
	}
}

func TestNewIsBlank(t *testing.T) { // P3
	for parts := 1; parts <= api.MaxParts; parts++ {
		w := world(t, parts)
		wantFlying(t, w, "")
		for node := 0; node <= parts; node++ {
			if list, errno := w.Log(node); len(list) != 0 || errno != api.OK {
				t.Errorf("Log(%d) of a new world = %v, %d", node, list, errno)
			}
		}
		if _, errno := w.Log(parts + 1); errno != api.ErrArg {
			t.Errorf("a world of %d parts has a node %d", parts, parts+1)
		}
		for part := 1; part <= parts; part++ {
			for key := range api.Keys {
				wantKey(t, w, part, key, 0, 0)
			}
		}
	}
}

func TestBeginWritesAndSends(t *testing.T) { // P5, P7
	w := world(t, 5)
	begin(t, w, 1, 4, 0, 1, 2, 3, 2, 4, 1, 3, 1, 0, 4)
	wantLogs(t, w, "1b", "", "", "", "", "")
	wantFlying(t, w, "Prepare 0>1 #1, Prepare 0>2 #1, Prepare 0>4 #1")
	begin(t, w, 2, 5, 3, 1)
	wantLogs(t, w, "1b 2b", "", "", "", "", "")
	wantFlying(t, w, "Prepare 0>1 #1, Prepare 0>2 #1, Prepare 0>4 #1, Prepare 0>5 #2")
}

func TestBeginTakesMaxWrites(t *testing.T) { // P5
	w := world(t, 5)
	begin(t, w, 1, 5, 0, 50, 4, 0, 40, 3, 0, 30, 2, 0, math.MinInt, 1, 0, math.MaxInt, 5, 3, 53)
	deliverAll(t, w)
	for part, value := range []int{1: math.MaxInt, 2: math.MinInt, 3: 30, 4: 40, 5: 50} {
		if part > 0 {
			wantKey(t, w, part, 0, value, 0)
		}
	}
	wantKey(t, w, 5, 3, 53, 0)
}

func TestBeginRefusesWrites(t *testing.T) { // P1, P5
	wrong := [][]api.Write{
		nil,
		{},
		make([]api.Write, 0, 4),
		puts(0, 0, 1),
		puts(4, 0, 1),
		puts(1, api.Keys, 1),
		puts(1, -1, 1),
		puts(1, 0, 1, 1, 0, 1),
		puts(1, 0, 1, 2, 0, 1, 1, 0, 2),
		puts(1, 0, 1, 2, 0, 1, 3, 0, 1, 1, 1, 1, 2, 1, 1, 3, 1, 1, 1, 2, 1),
		puts(1, 0, 1, 2, 0, 1, 0, 0, 1),
		puts(1, 0, 1, 2, 0, 1, 2, 4, 1),
		make([]api.Write, 100000),
	}
	for _, number := range extremes() {
		wrong = append(wrong, puts(number, 0, 1), puts(1, number, 1), puts(1, 0, 1, number, 0, 1))
	}
	w := world(t, 3)
	begin(t, w, 1, 1, 0, 1)
	before := picture(t, w, 3, 1)
	for i, writes := range wrong {
		if trans, errno := w.Begin(writes); trans != 0 || errno != api.ErrArg {
			t.Errorf("Begin of wrong writes %d = %d, %d, want 0, ErrArg", i, trans, errno)
		}
	}
	if after := picture(t, w, 3, 1); after != before {
		t.Errorf("refused writes have changed the world from\n%s to\n%s", before, after)
	}
	begin(t, w, 2, 1, 0, 1)
}

func TestBeginTakesOneKeyOfTwoParts(t *testing.T) { // P5
	w := world(t, 2)
	begin(t, w, 1, 1, 0, 1, 2, 0, 1)
	begin(t, w, 2, 1, 0, 1, 1, 1, 1)
	wantFlying(t, w, "Prepare 0>1 #1, Prepare 0>2 #1, Prepare 0>1 #2")
}

func TestBeginIsFull(t *testing.T) { // P1, P5
	w := world(t, 1)
	for trans := 1; trans <= api.MaxTrans; trans++ {
		begin(t, w, trans, 1, 0, trans)
		deliverAll(t, w)
	}
	before := picture(t, w, 1, api.MaxTrans)
	if trans, errno := w.Begin(puts(1, 0, 1)); trans != 0 || errno != api.ErrFull {
		t.Errorf("Begin of one too many = %d, %d, want 0, ErrFull", trans, errno)
	}
	for _, writes := range [][]api.Write{nil, puts(2, 0, 1), puts(1, 0, 1, 1, 0, 1)} {
		if trans, errno := w.Begin(writes); trans != 0 || errno != api.ErrArg {
			t.Errorf("Begin(%v) in a full world = %d, %d, want 0, ErrArg", writes, trans, errno)
		}
	}
	if after := picture(t, w, 1, api.MaxTrans); after != before {
		t.Errorf("refusals have changed the world from\n%s to\n%s", before, after)
	}
	wantKey(t, w, 1, 0, api.MaxTrans, 0)
}

// crowd makes a world in which MaxTrans transactions write the same key of all parts, with MaxFlying flying.
func crowd(t *testing.T) (*accord.World, []string) {
	t.Helper()
	w := world(t, api.MaxParts)
	var told []string
	for trans := 1; trans <= api.MaxTrans; trans++ {
		begin(t, w, trans, 1, 0, trans, 2, 0, trans, 3, 0, trans, 4, 0, trans, 5, 0, trans)
		for part := 1; part <= api.MaxParts; part++ {
			told = append(told, fmt.Sprintf("Prepare 0>%d #%d", part, trans))
		}
	}
	return w, told
}

func TestFlyingIsFull(t *testing.T) { // P4: a message that is sent when MaxFlying are flying is lost
	w, told := crowd(t)
	wantFlying(t, w, strings.Join(told, ", "))
	deliver(t, w, 0)
	told = append(told[1:], "Yes 1>0 #1")
	wantFlying(t, w, strings.Join(told, ", "))
	deliver(t, w, 4) // Prepare 0>1 #2: the first one holds the key
	told = append(append(told[:4:4], told[5:]...), "No 1>0 #2")
	wantFlying(t, w, strings.Join(told, ", "))
	deliver(t, w, api.MaxFlying-1) // there is room for the first Abort of five
	told[api.MaxFlying-1] = "Abort 0>1 #2"
	wantFlying(t, w, strings.Join(told, ", "))
	if s := state(t, w, 0, 2); s != api.Aborted {
		t.Errorf("the coordinator's state is %d, want Aborted", s)
	}
	if errno := w.Deliver(api.MaxFlying); errno != api.ErrNone {
		t.Errorf("Deliver(MaxFlying) = %d, want ErrNone", errno)
	}
}

func TestBeginWhenFlyingIsFull(t *testing.T) { // P4, P5
	w := world(t, api.MaxParts)
	for trans := 1; trans <= api.MaxTrans-1; trans++ {
		begin(t, w, trans, 1, 0, 1, 2, 0, 1, 3, 0, 1, 4, 0, 1, 5, 0, 1)
	}
	deliver(t, w, 0, 4, 54) // Prepare 0>1 of 1 and of 2, and the No of the latter
	if n := len(w.Flying()); n != api.MaxFlying-1 {
		t.Fatalf("%d are flying, want one less than MaxFlying", n)
	}
	begin(t, w, api.MaxTrans, 1, 1, 1, 2, 1, 1, 3, 1, 1)
	list := w.Flying()
	if len(list) != api.MaxFlying || message(list[api.MaxFlying-1]) != "Prepare 0>1 #12" {
		t.Errorf("%d are flying, the last one %v", len(list), list[len(list)-1])
	}
	if s := state(t, w, 0, api.MaxTrans); s != api.Begun {
		t.Errorf("the coordinator's state is %d, want Begun", s)
	}
}
