package accord_test

import (
	"math"
	"slices"
	"strings"
	"testing"

	"accord/accord"
	"accord/api"
)

// step is a part of a test's story.
type step func(t *testing.T, w *accord.World)

// arrive lets messages come, each the first one that is told so.
func arrive(told ...string) step {
	return func(t *testing.T, w *accord.World) {
		t.Helper()
		for _, text := range told {
			i := slices.IndexFunc(w.Flying(), func(m api.Message) bool { return message(m) == text })
			deliver(t, w, i)
		}
	}
}

// ticks lets the patience of nodes end.
func ticks(nodes ...int) step {
	return func(t *testing.T, w *accord.World) {
		t.Helper()
		tick(t, w, nodes...)
	}
}

// two begins a transaction of three parts, and another one that clashes with it at part 1; then come the steps.
func two(steps ...step) step {
	return func(t *testing.T, w *accord.World) {
		t.Helper()
		begin(t, w, 1, 1, 0, 1, 2, 0, 1, 3, 0, 1)
		begin(t, w, 2, 3, 1, 2, 1, 0, 2)
		for _, s := range steps {
			s(t, w)
		}
	}
}

// prepared lets all parts be prepared for the first transaction.
func prepared() step { return arrive("Prepare 0>1 #1", "Prepare 0>2 #1", "Prepare 0>3 #1") }

// deed is what a node of a world of three parts does in one call, act by act: records as '1b', messages as 'Yes 1>0 #1'.
type deed struct {
	name        string
	node        int
	ahead, does step
	takes       string // the message that comes, where one does
	acts        []string
}

// hears is the deed of a node to which a message comes.
func hears(node int, takes string, ahead step, acts ...string) deed {
	return deed{takes, node, ahead, arrive(takes), takes, acts}
}

func partDeeds() []deed {
	again := func(t *testing.T, w *accord.World) { double(t, w, 0) }
	return []deed{
		hears(2, "Prepare 0>2 #1", two(), "1p", "Yes 2>0 #1"),
		hears(1, "Prepare 0>1 #2", two(prepared()), "2a", "No 1>0 #2"),
		hears(1, "Prepare 0>1 #1", two(again, prepared()), "Yes 1>0 #1"),
		hears(1, "Prepare 0>1 #1", two(ticks(0), arrive("Abort 0>1 #1")), "No 1>0 #1"),
		hears(3, "Commit 0>3 #1", two(prepared(), arrive("Yes 1>0 #1", "Yes 2>0 #1", "Yes 3>0 #1")), "1c"),
		hears(3, "Abort 0>3 #1", two(prepared(), ticks(0)), "1a"),
		hears(3, "Abort 0>3 #1", two(ticks(0)), "1a"),
		hears(2, "Ask 1>2 #1", two(arrive("Prepare 0>1 #1"), ticks(1)), "1a", "Abort 2>1 #1"),
		hears(2, "Ask 1>2 #1", two(prepared(), ticks(0, 1), arrive("Abort 0>2 #1")), "Abort 2>1 #1"),
		hears(2, "Ask 1>2 #1", two(prepared(), ticks(1), arrive("Yes 1>0 #1", "Yes 2>0 #1", "Yes 3>0 #1", "Commit 0>2 #1")), "Commit 2>1 #1"),
		{"Tick(3)", 3, two(prepared(), arrive("Prepare 0>3 #2")), ticks(3), "", []string{"Ask 3>0 #1", "Ask 3>1 #1", "Ask 3>2 #1", "Ask 3>0 #2", "Ask 3>1 #2"}},
	}
}

func coordinatorDeeds() []deed {
	third := func(t *testing.T, w *accord.World) { begin(t, w, 3, 3, 2, 3, 1, 2, 3) }
	return []deed{
		{"Begin", 0, two(), third, "", []string{"3b", "Prepare 0>1 #3", "Prepare 0>3 #3"}},
		hears(0, "Yes 2>0 #1", two(prepared(), arrive("Yes 1>0 #1", "Yes 3>0 #1")), "1c", "Commit 0>1 #1", "Commit 0>2 #1", "Commit 0>3 #1"),
		hears(0, "No 1>0 #2", two(prepared(), arrive("Prepare 0>1 #2")), "2a", "Abort 0>1 #2", "Abort 0>3 #2"),
		hears(0, "Ask 1>0 #1", two(prepared(), ticks(1), arrive("Yes 1>0 #1", "Yes 2>0 #1", "Yes 3>0 #1")), "Commit 0>1 #1"),
		hears(0, "Ask 1>0 #1", two(prepared(), ticks(0, 1)), "Abort 0>1 #1"),
		{"Tick(0)", 0, two(), ticks(0), "", []string{"1a", "Abort 0>1 #1", "Abort 0>2 #1", "Abort 0>3 #1", "2a", "Abort 0>1 #2", "Abort 0>3 #2"}},
	}
}

// texts are the messages that are flying.
func texts(w *accord.World) []string {
	var list []string
	for _, m := range w.Flying() {
		list = append(list, message(m))
	}
	return list
}

// wantFuse wants a node with a fuse to do the first acts of a deed, and no other ones.
func wantFuse(t *testing.T, d deed, acts int) {
	t.Helper()
	w := world(t, 3)
	d.ahead(t, w)
	flies := texts(w)
	if d.takes != "" {
		i := slices.Index(flies, d.takes)
		flies = slices.Delete(flies, i, i+1)
	}
	logs := make([]string, 4)
	for node := range logs {
		logs[node] = log(t, w, node)
	}
	for _, act := range d.acts[:min(acts, len(d.acts))] {
		if strings.Contains(act, ">") {
			flies = append(flies, act)
		} else {
			logs[d.node] = strings.TrimSpace(logs[d.node] + " " + act)
		}
	}
	fuse(t, w, d.node, acts)
	d.does(t, w)
	wantLogs(t, w, logs...)
	wantFlying(t, w, strings.Join(flies, ", "))
	for node := range logs {
		if want := node != d.node || acts >= len(d.acts); up(t, w, node) != want {
			t.Errorf("Up(%d) is %t", node, !want)
		}
	}
}

func TestFuses(t *testing.T) { // P9: of all that a node may do, what a fuse keeps it from
	for _, d := range append(partDeeds(), coordinatorDeeds()...) {
		t.Run(d.name, func(t *testing.T) {
			for acts := range len(d.acts) + 2 {
				wantFuse(t, d, acts)
			}
		})
	}
}

func TestFuseRefusesActs(t *testing.T) { // P1, P9: and the fuse that was there burns on
	w := world(t, 1)
	begin(t, w, 1, 1, 0, 1)
	fuse(t, w, 1, 1)
	for _, acts := range []int{-1, -2, math.MinInt32, math.MinInt} {
		if errno := w.Fuse(1, acts); errno != api.ErrArg {
			t.Errorf("Fuse(1, %d) = %d, want ErrArg", acts, errno)
		}
	}
	wantUp(t, w, "uu")
	deliver(t, w, 0)
	wantUp(t, w, "u-")
	wantLogs(t, w, "1b", "1p")
	wantFlying(t, w, "")
}

func TestFuseWaitsForAnAct(t *testing.T) { // P9: a node crashes when it is about to do something, not ahead of it
	w := world(t, 2)
	for node := range 3 {
		fuse(t, w, node, 0)
	}
	tick(t, w, 0, 1, 2)
	wantUp(t, w, "uuu")
	begin(t, w, 1, 1, 0, 1)
	wantUp(t, w, "-uu")
	comeUp(t, w, 0)
	begin(t, w, 2, 1, 0, 1, 2, 0, 1)
	drop(t, w, 0)
	tick(t, w, 1)
	wantUp(t, w, "uuu")
	deliver(t, w, 0)
	wantUp(t, w, "uu-")
	wantLogs(t, w, "2b", "", "")
}

func TestFuseCountsActsOfAllCalls(t *testing.T) { // P9
	w := world(t, 2)
	fuse(t, w, 0, 7)
	begin(t, w, 1, 1, 0, 1, 2, 0, 1) // three
	begin(t, w, 2, 1, 0, 2)          // two
	deliver(t, w, 0, 0, 0)           // acts of others
	fuse(t, w, 1, 1)                 // the fuse of another one
	arrive("Yes 1>0 #1")(t, w)       // a vote that is noted is no act
	arrive("No 1>0 #2")(t, w)        // two
	arrive("Abort 0>1 #2")(t, w)     // Aborted already: no act
	wantUp(t, w, "uuu")
	wantFlying(t, w, "Yes 2>0 #1")
	deliver(t, w, 0) // the eighth one
	wantUp(t, w, "-uu")
	wantLogs(t, w, "1b 2b 2a", "1p 2a", "1p")
	wantFlying(t, w, "")
	tick(t, w, 1)
	wantFlying(t, w, "Ask 1>0 #1")
	wantUp(t, w, "--u")
}

func TestWhatIsNoAct(t *testing.T) { // P4, P9: what is doubled is sent by nobody, and nobody loses what is lost
	w := world(t, 2)
	begin(t, w, 1, 1, 0, 1, 2, 0, 1)
	deliver(t, w, 0)
	for node := range 3 {
		fuse(t, w, node, 0)
	}
	double(t, w, 0, 1)
	wantFlying(t, w, "Prepare 0>2 #1, Yes 1>0 #1, Prepare 0>2 #1, Yes 1>0 #1")
	drop(t, w, 0, 0)
	wantUp(t, w, "uuu")
	deliver(t, w, 1) // a vote that is noted
	wantUp(t, w, "uuu")
	wantLogs(t, w, "1b", "1p", "")
	wantFlying(t, w, "Prepare 0>2 #1")
}

func TestLostIsAnAct(t *testing.T) { // P4, P9: all that a full world loses was sent all the same
	for acts := range 9 {
		w, told := crowd(t)
		fuse(t, w, 0, acts)
		tick(t, w, 0)
		wantFlying(t, w, strings.Join(told, ", "))
		want := []int{api.Begun, api.Begun}
		if acts > 0 {
			want[0] = api.Aborted
		}
		if acts > 6 {
			want[1] = api.Aborted
		}
		if one, other := state(t, w, 0, 1), state(t, w, 0, 2); one != want[0] || other != want[1] {
			t.Errorf("a fuse of %d: the states are %d, %d, want %v", acts, one, other, want)
		}
		wantUp(t, w, "-uuuuu")
	}
}

func TestFuseIsReplaced(t *testing.T) { // P9: by a longer one, by a shorter one
	for _, c := range [][3]int{{0, 2, 2}, {2, 0, 0}, {1, 1, 1}, {5, 1, 1}, {0, math.MaxInt, 3}} {
		w := world(t, 2)
		fuse(t, w, 0, c[0])
		fuse(t, w, 0, c[1])
		begin(t, w, 1, 1, 0, 1, 2, 0, 1)
		if n := len(log(t, w, 0))/2 + len(w.Flying()); n != c[2] || up(t, w, 0) != (c[2] == 3) {
			t.Errorf("fuses of %d and %d: %d acts were done, want %d", c[0], c[1], n, c[2])
		}
	}
}

func TestFuseIsForgottenByACrash(t *testing.T) { // P9: by one that it did not make, and by its own
	w := world(t, 2)
	fuse(t, w, 0, 0)
	fuse(t, w, 1, 1)
	crash(t, w, 0, 1)
	comeUp(t, w, 0, 1)
	begin(t, w, 1, 1, 0, 1, 2, 0, 1)
	deliver(t, w, 0)
	tick(t, w, 1)
	wantUp(t, w, "uuu")
	wantFlying(t, w, "Prepare 0>2 #1, Yes 1>0 #1, Ask 1>0 #1, Ask 1>2 #1")
	fuse(t, w, 2, 0)
	deliver(t, w, 0)
	wantUp(t, w, "uu-")
	comeUp(t, w, 2)
	tick(t, w, 0)
	deliverAll(t, w)
	wantUp(t, w, "uuu")
	wantLogs(t, w, "1b 1a", "1p 1a", "1a")
}

func TestBeginAndCrash(t *testing.T) { // P5: there is a transaction, whatever the coordinator has done of it
	w := world(t, 1)
	for trans := 1; trans <= api.MaxTrans; trans++ {
		fuse(t, w, 0, trans%2)
		begin(t, w, trans, 1, 0, trans)
		wantUp(t, w, "-u")
		if s := state(t, w, 0, trans); s != trans%2 {
			t.Errorf("State(0, %d) = %d, want Begun of each second one", trans, s)
		}
		comeUp(t, w, 0)
	}
	if trans, errno := w.Begin(puts(1, 0, 1)); trans != 0 || errno != api.ErrFull {
		t.Errorf("Begin of one too many = %d, %d, want 0, ErrFull", trans, errno)
	}
	deliverAll(t, w)
	wantLogs(t, w, "1b 1a 3b 3a 5b 5a 7b 7a 9b 9a 11b 11a", "1a 3a 5a 7a 9a 11a")
}
