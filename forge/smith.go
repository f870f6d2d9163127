package forge

import (
	"slices"

	"pritchel/api"
)

// state is what a smith knows: where the token is to be looked for, and who has asked for it there.
type state struct {
	way     int
	list    []int
	asked   bool
	forging bool
}

// message is on its way between two neighbours.
type message interface {
	letter() api.Letter
}

type (
	request struct{ from, to int }
	token   struct{ from, to int }
)

func (m request) letter() api.Letter {
	return api.Letter{From: m.from, To: m.to}
}

func (m token) letter() api.Letter {
	return api.Letter{From: m.from, To: m.to, Token: true}
}

func (v *Village) send(m message) {
	v.flight = append(v.flight, m)
	v.sent++
}

// receive lets a message arrive that is no longer on its way.
func (v *Village) receive(m message) {
	switch m := m.(type) {
	case request:
		s := &v.smiths[m.to]
		s.list = append(s.list, m.from)
		v.goOn(m.to)
	case token:
		s := &v.smiths[m.to]
		s.way, s.asked = m.to, false
		v.goOn(m.to)
	}
}

// goOn does what follows whenever something has happened at a smith.
func (v *Village) goOn(i int) {
	s := &v.smiths[i]
	if s.way == i && !s.forging && len(s.list) > 0 {
		v.grant(i)
	}
	// Who has just given the token away asks for it again for the rest of the list.
	if s.way != i && len(s.list) > 0 && !s.asked {
		v.send(request{from: i, to: s.way})
		s.asked = true
	}
}

// grant lets the first of a smith's list have what it waits for: the forge, or the token.
func (v *Village) grant(i int) {
	s := &v.smiths[i]
	first := s.list[0]
	s.list = slices.Delete(s.list, 0, 1)
	if first == i {
		s.forging = true
		return
	}
	s.way, s.asked = first, false
	v.send(token{from: i, to: first})
}
