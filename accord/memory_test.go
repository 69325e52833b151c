package accord_test

import (
	"slices"
	"testing"

	"accord/accord"
	"accord/api"
)

func TestWritesAreNotChanged(t *testing.T) { // P2: nor is their spare room
	w := world(t, 3)
	room := puts(3, 0, 1, 1, 2, 2, 2, 1, 3, -7, -8, -9, -10, -11, -12)
	before := slices.Clone(room)
	for _, list := range [][]api.Write{room[:3], room[:0], room[:4], room[2:3]} {
		w.Begin(list)
		deliverAll(t, w)
		if !slices.Equal(room, before) {
			t.Fatalf("Begin has changed its list, or the room behind it, to %v", room)
		}
	}
}

func TestWritesAreNotKept(t *testing.T) { // P2
	w := world(t, 3)
	room := puts(3, 0, 1, 1, 2, 2)
	if trans, errno := w.Begin(room); trans != 1 || errno != api.OK {
		t.Fatalf("Begin = %d, %d", trans, errno)
	}
	copy(room, puts(2, 0, 5, 2, 1, 6))
	wantFlying(t, w, "Prepare 0>1 #1, Prepare 0>3 #1")
	deliver(t, w, 0, 0)
	copy(room, puts(1, 2, 8, 3, 0, 9))
	wantKey(t, w, 1, 2, 0, 1)
	wantKey(t, w, 3, 0, 0, 1)
	wantKey(t, w, 2, 0, 0, 0)
	deliverAll(t, w)
	wantKey(t, w, 1, 2, 2, 0)
	wantKey(t, w, 3, 0, 1, 0)
	wantKey(t, w, 2, 0, 0, 0)
	copy(room, puts(1, 2, 8, 3, 0, 9))
	wantKey(t, w, 1, 2, 2, 0)
}

// spoil overwrites a list and the room behind it.
func spoil[T any](list []T, with T) {
	list = list[:cap(list)]
	for i := range list {
		list[i] = with
	}
}

// apart tells whether no element of the one list, with its spare room, is one of the other one.
func apart[T any](one, other []T) bool {
	one, other = one[:cap(one)], other[:cap(other)]
	for i := range one {
		for k := range other {
			if &one[i] == &other[k] {
				return false
			}
		}
	}
	return true
}

func TestAnswersAreNew(t *testing.T) { // P2: so is their spare room
	w := world(t, 3)
	look := func(trans int) {
		t.Helper()
		before := picture(t, w, 3, trans)
		one, other := w.Flying(), w.Flying()
		if !apart(one, other) {
			t.Fatal("two answers of Flying share memory")
		}
		spoil(one, api.Message{Kind: 99, From: 99, To: 99, Trans: 99})
		for node := 0; node <= 3; node++ {
			l, _ := w.Log(node)
			k, _ := w.Log(node)
			if !apart(l, k) {
				t.Fatal("two answers of Log share memory")
			}
			spoil(l, api.Record{Trans: 99, State: 99})
		}
		if after := picture(t, w, 3, trans); after != before {
			t.Fatalf("who changes an answer changes the world from\n%s to\n%s", before, after)
		}
	}
	look(0)
	for trans := 1; trans <= 5; trans++ {
		begin(t, w, trans, 1, 0, trans, 2, 0, trans, 3, trans%4, trans)
		look(trans)
		for range 4 {
			deliver(t, w, 0)
			look(trans)
		}
	}
	double(t, w, 0)
	look(5)
	drop(t, w, 0)
	look(5)
	tick(t, w, 0, 1, 2, 3)
	look(5)
	for len(w.Flying()) > 0 {
		deliver(t, w, 0)
		look(5)
	}
}

func TestAnswersStay(t *testing.T) { // P2: what was answered does not change behind its owner's back
	w := world(t, 2)
	begin(t, w, 1, 1, 0, 1, 2, 0, 1)
	flown := w.Flying()
	log, _ := w.Log(0)
	flownThen, logThen := slices.Clone(flown), slices.Clone(log)
	double(t, w, 1)
	drop(t, w, 0)
	tick(t, w, 0)
	begin(t, w, 2, 1, 0, 2)
	deliverAll(t, w)
	if !slices.Equal(flown, flownThen) || !slices.Equal(log, logThen) {
		t.Errorf("answers have changed to %v, %v", flown, log)
	}
}

// stepCalls are the calls of one step, of all kinds but Begin.
func stepCalls(step int) []func(*accord.World) api.Errno {
	return []func(*accord.World) api.Errno{
		func(w *accord.World) api.Errno { return w.Deliver(step % 7) },
		func(w *accord.World) api.Errno { return w.Double(step % 5) },
		func(w *accord.World) api.Errno { return w.Drop(step % 6) },
		func(w *accord.World) api.Errno { return w.Fuse(step%4, step%9) },
		func(w *accord.World) api.Errno { return w.Tick(step % 5) },
		func(w *accord.World) api.Errno { return w.Crash(step % 11) },
		func(w *accord.World) api.Errno { return w.Recover(step % 4) },
	}
}

func TestWorldsAreApart(t *testing.T) { // P2: the same calls get the same answers, whatever other worlds do
	one, other, noise := world(t, 3), world(t, 3), world(t, 5)
	trans := 0
	for step := range 60 {
		writes := puts(1+step%3, step%4, step, 1+(step+1)%3, 0, step)
		n, e := one.Begin(writes)
		noise.Begin(puts(5, step%4, -step, 1, 0, -step))
		m, f := other.Begin(writes)
		if n != m || e != f {
			t.Fatalf("Begin answers %d, %d and %d, %d", n, e, m, f)
		}
		trans = max(trans, n)
		calls, noises := stepCalls(step), stepCalls(step+1)
		for i, call := range calls {
			e := call(one)
			noises[len(noises)-1-i](noise)
			if f := call(other); e != f {
				t.Fatalf("call %d of step %d answers %d and %d", i, step, e, f)
			}
		}
		if a, b := picture(t, one, 3, trans), picture(t, other, 3, trans); a != b {
			t.Fatalf("two worlds after the same calls:\n%s and\n%s", a, b)
		}
	}
}
