package accord_test

import (
	"fmt"
	"math"
	"slices"
	"strings"
	"testing"

	"accord/accord"
	"accord/api"
)

// extremes are numbers that are no node, part, key, transaction or message anywhere.
func extremes() []int {
	return []int{-1, -2, math.MinInt, math.MinInt32, math.MaxInt, math.MaxInt32, 1 << 62, 1000}
}

func world(t *testing.T, parts int) *accord.World {
	t.Helper()
	w, errno := accord.New(parts)
	if w == nil || errno != api.OK {
		t.Fatalf("New(%d) answers %d", parts, errno)
	}
	return w
}

// puts makes writes of part, key, value, and so on.
func puts(numbers ...int) []api.Write {
	var list []api.Write
	for trio := range slices.Chunk(numbers, 3) {
		list = append(list, api.Write{Part: trio[0], Key: trio[1], Value: trio[2]})
	}
	return list
}

func begin(t *testing.T, w *accord.World, want int, numbers ...int) {
	t.Helper()
	if trans, errno := w.Begin(puts(numbers...)); trans != want || errno != api.OK {
		t.Fatalf("Begin(%v) = %d, %d, want %d, OK", numbers, trans, errno, want)
	}
}

// each makes a call with one number after the other, and wants OK.
func each(t *testing.T, name string, call func(int) api.Errno, numbers []int) {
	t.Helper()
	for _, number := range numbers {
		if errno := call(number); errno != api.OK {
			t.Fatalf("%s(%d) = %d", name, number, errno)
		}
	}
}

func deliver(t *testing.T, w *accord.World, numbers ...int) {
	t.Helper()
	each(t, "Deliver", w.Deliver, numbers)
}

// deliverAll lets all come, the first one first, till nothing is flying.
func deliverAll(t *testing.T, w *accord.World) {
	t.Helper()
	for len(w.Flying()) > 0 {
		deliver(t, w, 0)
	}
}

func drop(t *testing.T, w *accord.World, numbers ...int) {
	t.Helper()
	each(t, "Drop", w.Drop, numbers)
}

func double(t *testing.T, w *accord.World, numbers ...int) {
	t.Helper()
	each(t, "Double", w.Double, numbers)
}

func tick(t *testing.T, w *accord.World, nodes ...int) {
	t.Helper()
	each(t, "Tick", w.Tick, nodes)
}

func crash(t *testing.T, w *accord.World, nodes ...int) {
	t.Helper()
	each(t, "Crash", w.Crash, nodes)
}

func comeUp(t *testing.T, w *accord.World, nodes ...int) {
	t.Helper()
	each(t, "Recover", w.Recover, nodes)
}

func fuse(t *testing.T, w *accord.World, node, acts int) {
	t.Helper()
	if errno := w.Fuse(node, acts); errno != api.OK {
		t.Fatalf("Fuse(%d, %d) = %d", node, acts, errno)
	}
}

func up(t *testing.T, w *accord.World, node int) bool {
	t.Helper()
	is, errno := w.Up(node)
	if errno != api.OK {
		t.Fatalf("Up(%d) = %d", node, errno)
	}
	return is
}

// wantUp holds which nodes are up against a text as 'u-u', the coordinator first, in which '-' is down.
func wantUp(t *testing.T, w *accord.World, want string) {
	t.Helper()
	for node, c := range want {
		if got := up(t, w, node); got != (c == 'u') {
			t.Fatalf("Up(%d) = %t, want '%s'", node, got, want)
		}
	}
}

// message tells one as 'Prepare 0>1 #1'.
func message(m api.Message) string {
	names := []string{"?", "Prepare", "Yes", "No", "Commit", "Abort", "Ask"}
	return fmt.Sprintf("%s %d>%d #%d", names[m.Kind], m.From, m.To, m.Trans)
}

func flying(w *accord.World) string {
	var list []string
	for _, m := range w.Flying() {
		list = append(list, message(m))
	}
	return strings.Join(list, ", ")
}

func wantFlying(t *testing.T, w *accord.World, want string) {
	t.Helper()
	if got := flying(w); got != want {
		t.Fatalf("flying are\n%s, want\n%s", got, want)
	}
}

func log(t *testing.T, w *accord.World, node int) string {
	t.Helper()
	list, errno := w.Log(node)
	if errno != api.OK {
		t.Fatalf("Log(%d) = %d", node, errno)
	}
	var told []string
	for _, r := range list {
		told = append(told, record(r))
	}
	return strings.Join(told, " ")
}

// record tells one as '1b'.
func record(r api.Record) string {
	return fmt.Sprintf("%d%c", r.Trans, "ubpca"[r.State])
}

// wantLogs holds the nodes' logs against texts as '1b 1c', the coordinator's first.
func wantLogs(t *testing.T, w *accord.World, want ...string) {
	t.Helper()
	for node, text := range want {
		if got := log(t, w, node); got != text {
			t.Fatalf("the log of node %d is '%s', want '%s'", node, got, text)
		}
	}
}

func state(t *testing.T, w *accord.World, node, trans int) int {
	t.Helper()
	s, errno := w.State(node, trans)
	if errno != api.OK {
		t.Fatalf("State(%d, %d) = %d", node, trans, errno)
	}
	return s
}

func wantKey(t *testing.T, w *accord.World, part, key, value, holder int) {
	t.Helper()
	v, e := w.Value(part, key)
	h, f := w.Holder(part, key)
	if v != value || e != api.OK || h != holder || f != api.OK {
		t.Fatalf("part %d, key %d: value %d (%d), holder %d (%d), want %d, %d", part, key, v, e, h, f, value, holder)
	}
}

// picture is all that a world of so many parts and transactions tells.
func picture(t *testing.T, w *accord.World, parts, trans int) string {
	t.Helper()
	var b strings.Builder
	fmt.Fprintln(&b, "flying:", flying(w))
	fmt.Fprintln(&b, "records:", given(w.Records()))
	for node := 0; node <= parts; node++ {
		fmt.Fprintln(&b, "log", node, log(t, w, node))
		fmt.Fprintln(&b, "up", node, up(t, w, node))
		for number := 1; number <= trans; number++ {
			fmt.Fprintln(&b, "state", node, number, state(t, w, node, number))
		}
		for key := 0; node > 0 && key < api.Keys; key++ {
			v, e := w.Value(node, key)
			h, f := w.Holder(node, key)
			fmt.Fprintln(&b, "key", node, key, v, e, h, f)
		}
	}
	return b.String()
}
