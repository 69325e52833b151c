package mail

import (
	"slices"
	"testing"

	"accord/api"
)

func numbers(m *Mail) []int {
	var list []int
	for _, message := range m.All() {
		list = append(list, message.Trans)
	}
	return list
}

func TestOrder(t *testing.T) {
	var m Mail
	for trans := range 5 {
		m.Send(api.Message{Kind: api.Ask, Trans: trans})
	}
	if got := m.Take(2); got != (api.Message{Kind: api.Ask, Trans: 2}) {
		t.Errorf("Take(2) = %v", got)
	}
	m.Send(api.Message{Trans: 9})
	m.Take(0)
	m.Take(3)
	if got := numbers(&m); !slices.Equal(got, []int{1, 3, 4}) {
		t.Errorf("flying are %v, want 1, 3, 4", got)
	}
}

func TestHas(t *testing.T) {
	var m Mail
	if m.Has(0) || m.Has(-1) {
		t.Error("there are messages where none was sent")
	}
	m.Send(api.Message{})
	if !m.Has(0) || m.Has(1) || m.Has(-1) {
		t.Error("one was sent, so that number 0 is there, and no other one")
	}
}

func TestFull(t *testing.T) {
	var m Mail
	for trans := range api.MaxFlying + 3 {
		m.Send(api.Message{Trans: trans})
	}
	if got := numbers(&m); len(got) != api.MaxFlying || got[api.MaxFlying-1] != api.MaxFlying-1 {
		t.Errorf("flying are %v, want the first MaxFlying", got)
	}
	m.Take(0)
	m.Send(api.Message{Trans: 100})
	m.Send(api.Message{Trans: 101})
	if got := numbers(&m); len(got) != api.MaxFlying || got[api.MaxFlying-1] != 100 {
		t.Errorf("flying are %v, want 100 at the end", got)
	}
}
