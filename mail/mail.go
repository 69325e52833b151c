// Package mail: the messages that are on their way.
package mail

import (
	"slices"

	"accord/api"
)

// Mail is what is flying, in the order in which it was sent.
type Mail struct {
	flying []api.Message
}

// Send lets a message fly, or loses it where there is no room for one more.
func (m *Mail) Send(message api.Message) {
	if len(m.flying) < api.MaxFlying {
		m.flying = append(m.flying, message)
	}
}

// Has tells whether there is a message number i.
func (m *Mail) Has(i int) bool {
	return i >= 0 && i < len(m.flying)
}

// Take takes message number i out; there must be one.
func (m *Mail) Take(i int) api.Message {
	message := m.flying[i]
	m.flying = slices.Delete(m.flying, i, i+1)
	return message
}

// Double sends message number i once more; there must be one.
func (m *Mail) Double(i int) {
	m.Send(m.flying[i])
}

// All is a copy, so that nobody outside can change what is flying.
func (m *Mail) All() []api.Message {
	list := make([]api.Message, len(m.flying))
	copy(list, m.flying)
	return list
}
