package mail

import (
	"slices"
	"testing"

	"accord/api"
)

func numbers(m *Mail) []int {
	var list []int
	for _, message := range m.All() {
		list = append(list, message.Trans)
	}
	return list
}

func TestOrder(t *testing.T) {
	var m Mail
	for trans := range 5 {
		m.Send(api.Message{Kind: api.Ask, Trans: trans})
	}
	if got := m.Take(2); got != (api.Message{Kind: api.Ask, Trans: 2}) {
		t.Errorf("Take(2) = %v", got)
	}
	m.Send(api.Message{Trans: 9})
	m.Take(0)
	m.Take(3)
	if got := numbers(&m); !slices.Equal(got, []int{1, 3, 4}) {
		t.Errorf("flying are %v, want 1, 3, 4", got)
	}
}

func TestHas(t *testing.T) {
	var m Mail
	if m.Has(0) || m.Has(-1) {
		t.Error("there are messages where none was sent")
	}
	m.Send(api.Message{})
	if !m.Has(0) || m.Has(1) || m.Has(-1) {
		t.Error("one was sent, so that number 0 is there, and no other one")
	}
}

func TestFull(t *testing.T) {
	var m Mail
	for trans := range api.MaxFlying + 3 {
		m.Send(api.Message{Trans: trans})
	}
	if got := numbers(&m); len(got) != api.MaxFlying || got[api.MaxFlying-1] != api.MaxFlying-1 {
		t.Errorf("flying are %v, want the first MaxFlying", got)
	}
	m.Take(0)
	m.Send(api.Message{Trans: 100})
	m.Send(api.Message{Trans: 101})
	if got := numbers(&m); len(got) != api.MaxFlying || got[api.MaxFlying-1] != 100 {
		t.Errorf("flying are %v, want 100 at the end", got)
	}
}

func TestDouble(t *testing.T) {
	var m Mail
	for trans := range 3 {
		m.Send(api.Message{Kind: api.Yes, From: trans, Trans: trans})
	}
	m.Double(1)
	m.Double(3)
	m.Double(0)
	if got := numbers(&m); !slices.Equal(got, []int{0, 1, 2, 1, 1, 0}) {
		t.Errorf("flying are %v, want 0, 1, 2, 1, 1, 0", got)
	}
	if got := m.Take(3); got != (api.Message{Kind: api.Yes, From: 1, Trans: 1}) {
		t.Errorf("doubled, a message is %v", got)
	}
	if got := numbers(&m); !slices.Equal(got, []int{0, 1, 2, 1, 0}) {
		t.Errorf("flying are %v, want all but the one that was taken", got)
	}
}

func TestDoubleWhenFull(t *testing.T) {
	var m Mail
	for trans := range api.MaxFlying - 1 {
		m.Send(api.Message{Trans: trans})
	}
	m.Double(7)
	m.Double(8)
	if got := numbers(&m); len(got) != api.MaxFlying || got[api.MaxFlying-1] != 7 {
		t.Errorf("flying are %v, want 7 at the end", got)
	}
}
