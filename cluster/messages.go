package cluster

import "slices"

// messages are the bytes of those that are under way, in the order in which they were sent.
type messages struct {
	texts []string
}

func (m *messages) len() int { return len(m.texts) }

// send lets messages be under way, behind all others.
func (m *messages) send(texts ...string) {
	m.texts = append(m.texts, texts...)
}

// at is the message n, counted round and round; there must be one.
func (m *messages) at(n int) string {
	return m.texts[n%len(m.texts)]
}

// take is the message n, which is no more under way. The fewer ones move, those ahead of it or those behind: mostly it is the first one.
func (m *messages) take(n int) string {
	s := m.at(n)
	place := n % len(m.texts)
	if place > len(m.texts)/2 {
		m.texts = slices.Delete(m.texts, place, place+1)
		return s
	}
	copy(m.texts[1:], m.texts[:place])
	m.texts[0] = "" // its bytes are not kept
	m.texts = m.texts[1:]
	return s
}
