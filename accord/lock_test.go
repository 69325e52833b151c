package accord

import (
	"errors"
	"iter"
	"sync"
	"testing"
	"time"

	"accord/api"
	"accord/nodes"
)

// calls are those that hold the world's lock.
func calls() map[string]func(*World) {
	return map[string]func(*World){
		"Begin":          func(w *World) { w.Begin([]api.Write{{Part: 1}}) },
		"Begin, wrong":   func(w *World) { w.Begin(nil) },
		"Deliver":        func(w *World) { w.Deliver(0) },
		"Deliver, none":  func(w *World) { w.Deliver(-1) },
		"Drop":           func(w *World) { w.Drop(0) },
		"Drop, none":     func(w *World) { w.Drop(-1) },
		"Double":         func(w *World) { w.Double(0) },
		"Double, none":   func(w *World) { w.Double(-1) },
		"Tick":           func(w *World) { w.Tick(0) },
		"Tick, wrong":    func(w *World) { w.Tick(-1) },
		"Crash":          func(w *World) { w.Crash(0) },
		"Crash, wrong":   func(w *World) { w.Crash(-1) },
		"Fuse":           func(w *World) { w.Fuse(0, 1) },
		"Fuse, wrong":    func(w *World) { w.Fuse(0, -1) },
		"Recover":        func(w *World) { w.Recover(2) },
		"Recover, up":    func(w *World) { w.Recover(1) },
		"Up":             func(w *World) { w.Up(0) },
		"Up, wrong":      func(w *World) { w.Up(-1) },
		"Begin, down":    func(w *World) { w.Crash(0); w.Begin([]api.Write{{Part: 1}}) },
		"Begin, crash":   func(w *World) { w.Fuse(0, 0); w.Begin([]api.Write{{Part: 1}}) },
		"Deliver, crash": func(w *World) { w.Fuse(1, 0); w.Deliver(0) },
		"Tick, crash":    func(w *World) { w.Fuse(0, 0); w.Tick(0) },
		"Flying":         func(w *World) { w.Flying() },
		"Log":            func(w *World) { w.Log(0) },
		"Log, wrong":     func(w *World) { w.Log(-1) },
		"Records":        func(w *World) { goThrough(w.Records()) },
		"Records, left":  func(w *World) { leave(w.Records()) },
		"State":          func(w *World) { w.State(0, 1) },
		"State, wrong":   func(w *World) { w.State(0, 0) },
		"Value":          func(w *World) { w.Value(1, 0) },
		"Value, wrong":   func(w *World) { w.Value(0, 0) },
		"Holder":         func(w *World) { w.Holder(1, 0) },
		"Holder, wrong":  func(w *World) { w.Holder(0, 0) },
	}
}

// goThrough goes through all that an iterator gives.
func goThrough(seq iter.Seq2[int, api.Record]) {
	for range seq {
	}
}

// leave goes through an iterator no further than to what it gives first.
func leave(seq iter.Seq2[int, api.Record]) {
	for range seq {
		break
	}
}

func TestCallsHoldTheLock(t *testing.T) {
	for name, call := range calls() {
		t.Run(name, func(t *testing.T) {
			t.Parallel()
			w, _ := New(2)
			w.Begin([]api.Write{{Part: 1}})
			w.Crash(2)
			answered := make(chan struct{})
			w.lock.Lock()
			go func() {
				call(w)
				close(answered)
			}()
			select {
			case <-answered:
				t.Error("the call answers while another one holds the lock")
			case <-time.After(30 * time.Millisecond):
			}
			w.lock.Unlock()
			<-answered
			if !w.lock.TryLock() {
				t.Error("the call has not given the lock back")
			}
		})
	}
}

// caught is what a function panics with, nil if it does not.
func caught(does func()) (gave any) {
	defer func() { gave = recover() }()
	does()
	return nil
}

func TestOtherPanicsGoOn(t *testing.T) { // nothing but the crash of a node is recovered
	for _, value := range []any{"a fault", 1, errors.New("a fault")} {
		if got := caught(func() { untilCrash(func() { panic(value) }) }); got != value {
			t.Errorf("a panic with %v goes on as %v", value, got)
		}
	}
	if got := caught(func() { untilCrash(func() { panic(nodes.Crashed(1)) }) }); got != nil {
		t.Errorf("the crash of a node goes on as %v", got)
	}
	if got := caught(func() { untilCrash(func() {}) }); got != nil {
		t.Errorf("there is no panic, but %v goes on", got)
	}
}

func TestOtherPanicsGiveTheLockBack(t *testing.T) {
	fault := func(*nodes.Nodes, int) { panic("a fault") }
	for i, call := range []func(*World){
		func(w *World) { w.withMessage(0, fault) },
		func(w *World) { w.withNode(1, true, fault) },
	} {
		w, _ := New(1)
		w.Begin([]api.Write{{Part: 1}})
		if got := caught(func() { call(w) }); got != "a fault" {
			t.Errorf("call %d: the fault goes on as %v", i, got)
		}
		if !w.lock.TryLock() {
			t.Errorf("call %d has not given the lock back", i)
		}
	}
}

func TestRecordsAreGoneThroughWithoutTheLock(t *testing.T) { // P11: calls may be made meanwhile
	w, _ := New(2)
	w.Begin([]api.Write{{Part: 1}})
	w.Deliver(0)
	given := 0
	for range w.Records() {
		given++
		if !w.lock.TryLock() {
			t.Fatal("the lock is held while records are gone through")
		}
		w.lock.Unlock()
	}
	if given != 2 {
		t.Errorf("%d records are given, want 2", given)
	}
	fault := func(int, api.Record) bool { panic("a fault") }
	if got := caught(func() { w.Records()(fault) }); got != "a fault" {
		t.Errorf("the fault of who goes through goes on as %v", got)
	}
	if !w.lock.TryLock() {
		t.Error("the lock is held after a fault of who goes through")
	}
}

func TestManySides(t *testing.T) {
	for range 50 {
		w, _ := New(api.MaxParts)
		var numbers [16]int
		var sides sync.WaitGroup
		for side := range numbers {
			sides.Go(func() {
				numbers[side], _ = w.Begin([]api.Write{{Part: 1 + side%api.MaxParts, Value: side}})
				w.Deliver(0)
				w.Fuse(1+side%api.MaxParts, side)
				w.Tick(1 + side%api.MaxParts)
				w.Crash(1)
				w.Recover(1)
				w.Up(0)
				w.Flying()
				w.Log(0)
				goThrough(w.Records())
			})
		}
		sides.Wait()
		var seen [api.MaxTrans + 1]int
		for _, number := range numbers {
			seen[number]++
		}
		for trans, n := range seen {
			if trans > 0 && n != 1 || trans == 0 && n != len(numbers)-api.MaxTrans {
				t.Fatalf("the transactions' numbers: %v", numbers)
			}
		}
	}
}
