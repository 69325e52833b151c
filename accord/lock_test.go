package accord

import (
	"sync"
	"testing"
	"time"

	"accord/api"
)

// calls are those that hold the world's lock.
func calls() map[string]func(*World) {
	return map[string]func(*World){
		"Begin":         func(w *World) { w.Begin([]api.Write{{Part: 1}}) },
		"Begin, wrong":  func(w *World) { w.Begin(nil) },
		"Deliver":       func(w *World) { w.Deliver(0) },
		"Deliver, none": func(w *World) { w.Deliver(-1) },
		"Drop":          func(w *World) { w.Drop(0) },
		"Drop, none":    func(w *World) { w.Drop(-1) },
		"Double":        func(w *World) { w.Double(0) },
		"Double, none":  func(w *World) { w.Double(-1) },
		"Tick":          func(w *World) { w.Tick(0) },
		"Tick, wrong":   func(w *World) { w.Tick(-1) },
		"Flying":        func(w *World) { w.Flying() },
		"Log":           func(w *World) { w.Log(0) },
		"Log, wrong":    func(w *World) { w.Log(-1) },
		"State":         func(w *World) { w.State(0, 1) },
		"State, wrong":  func(w *World) { w.State(0, 0) },
		"Value":         func(w *World) { w.Value(1, 0) },
		"Value, wrong":  func(w *World) { w.Value(0, 0) },
		"Holder":        func(w *World) { w.Holder(1, 0) },
		"Holder, wrong": func(w *World) { w.Holder(0, 0) },
	}
}

func TestCallsHoldTheLock(t *testing.T) {
	for name, call := range calls() {
		t.Run(name, func(t *testing.T) {
			t.Parallel()
			w, _ := New(1)
			w.Begin([]api.Write{{Part: 1}})
			answered := make(chan struct{})
			w.lock.Lock()
			go func() {
				call(w)
				close(answered)
			}()
			select {
			case <-answered:
				t.Error("the call answers while another one holds the lock")
			case <-time.After(30 * time.Millisecond):
			}
			w.lock.Unlock()
			<-answered
			if !w.lock.TryLock() {
				t.Error("the call has not given the lock back")
			}
		})
	}
}

func TestManySides(t *testing.T) {
	for range 50 {
		w, _ := New(api.MaxParts)
		var numbers [16]int
		var sides sync.WaitGroup
		for side := range numbers {
			sides.Go(func() {
				numbers[side], _ = w.Begin([]api.Write{{Part: 1 + side%api.MaxParts, Value: side}})
				w.Deliver(0)
				w.Flying()
				w.Log(0)
			})
		}
		sides.Wait()
		var seen [api.MaxTrans + 1]int
		for _, number := range numbers {
			seen[number]++
		}
		for trans, n := range seen {
			if trans > 0 && n != 1 || trans == 0 && n != len(numbers)-api.MaxTrans {
				t.Fatalf("the transactions' numbers: %v", numbers)
			}
		}
	}
}
