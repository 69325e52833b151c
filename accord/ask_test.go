package accord_test

import (
	"testing"

	"accord/api"
)

func TestLogRefuses(t *testing.T) { // P1, P11
	w := world(t, 2)
	begin(t, w, 1, 1, 0, 1)
	for _, node := range append(extremes(), 3) {
		if list, errno := w.Log(node); list != nil || errno != api.ErrArg {
			t.Errorf("Log(%d) = %v, %d, want nil, ErrArg", node, list, errno)
		}
	}
}

func TestStateRefuses(t *testing.T) { // P1, P11
	w := world(t, 2)
	if s, errno := w.State(0, 1); s != 0 || errno != api.ErrArg {
		t.Errorf("State(0, 1) of no transactions = %d, %d, want 0, ErrArg", s, errno)
	}
	begin(t, w, 1, 1, 0, 1)
	for _, number := range append(extremes(), 3) {
		for _, c := range [][2]int{{number, 1}, {0, number}, {number, number}, {number, 0}, {1, 0}, {1, 2}} {
			if s, errno := w.State(c[0], c[1]); s != 0 || errno != api.ErrArg {
				t.Errorf("State(%d, %d) = %d, %d, want 0, ErrArg", c[0], c[1], s, errno)
			}
		}
	}
}

func TestKeyRefuses(t *testing.T) { // P1, P11
	w := world(t, 2)
	begin(t, w, 1, 1, 0, 1, 2, 0, 1)
	deliverAll(t, w)
	begin(t, w, 2, 1, 0, 1, 2, 0, 1)
	deliver(t, w, 0, 0)
	wrong := [][2]int{{0, 0}, {0, 4}, {0, -1}, {3, 0}, {1, 4}, {2, 4}, {3, 4}}
	for _, number := range extremes() {
		wrong = append(wrong, [2]int{number, 0}, [2]int{1, number}, [2]int{0, number}, [2]int{number, number})
	}
	for _, c := range wrong {
		if v, errno := w.Value(c[0], c[1]); v != 0 || errno != api.ErrArg {
			t.Errorf("Value(%d, %d) = %d, %d, want 0, ErrArg", c[0], c[1], v, errno)
		}
		if h, errno := w.Holder(c[0], c[1]); h != 0 || errno != api.ErrArg {
			t.Errorf("Holder(%d, %d) = %d, %d, want 0, ErrArg", c[0], c[1], h, errno)
		}
	}
}

func TestStates(t *testing.T) { // P11: the last record of that transaction, at that node
	w := world(t, 2)
	begin(t, w, 1, 1, 0, 1)
	begin(t, w, 2, 1, 0, 2, 2, 0, 2)
	deliverAll(t, w)
	for node, want := range [][2]int{{api.Committed, api.Aborted}, {api.Committed, api.Aborted}, {api.Unknown, api.Aborted}} {
		for i, s := range want {
			if got := state(t, w, node, i+1); got != s {
				t.Errorf("State(%d, %d) = %d, want %d", node, i+1, got, s)
			}
		}
	}
}

func TestValueIsOfTheLastCommit(t *testing.T) { // P11: by the order of the records, not of the transactions
	w := world(t, 1)
	begin(t, w, 1, 1, 0, 10, 1, 1, 11)
	begin(t, w, 2, 1, 0, 20, 1, 2, 22)
	deliver(t, w, 1, 1, 1) // the second one first
	wantKey(t, w, 1, 0, 20, 0)
	deliver(t, w, 0)
	wantKey(t, w, 1, 0, 20, 1)
	wantKey(t, w, 1, 1, 0, 1)
	wantKey(t, w, 1, 2, 22, 0)
	deliver(t, w, 0, 0)
	wantLogs(t, w, "1b 2b 2c 1c", "2p 2c 1p 1c")
	wantKey(t, w, 1, 0, 10, 0)
	wantKey(t, w, 1, 1, 11, 0)
	wantKey(t, w, 1, 2, 22, 0)
	wantKey(t, w, 1, 3, 0, 0)
}

func TestValueZeroIsAValue(t *testing.T) { // P11
	w := world(t, 1)
	for trans, value := range []int{5, 0, -7, 0} {
		begin(t, w, trans+1, 1, 0, value)
		deliverAll(t, w)
		wantKey(t, w, 1, 0, value, 0)
	}
}

func TestKeysAreOfTheirPart(t *testing.T) { // P11
	w := world(t, 5)
	for part := 1; part <= 5; part++ {
		begin(t, w, part, part, part%api.Keys, 100+part)
	}
	deliverAll(t, w)
	for part := 1; part <= 5; part++ {
		for key := range api.Keys {
			want := 0
			if key == part%api.Keys {
				want = 100 + part
			}
			wantKey(t, w, part, key, want, 0)
		}
	}
}
