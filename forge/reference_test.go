package forge_test

import (
	"fmt"
	"math"
	"slices"
	"testing"

	"pritchel/api"
	"pritchel/forge"
)

// This file works by the definitions of the chapter, as slowly and plainly as they are written, and makes cases.

// between is two neighbours, in one direction.
type between struct {
	from, to int
}

// model is a village as the chapter describes it.
type model struct {
	on     []int
	ways   []int
	lists  [][]int
	asked  []bool
	there  []bool
	lines  map[between][]string // the messages on their way, the oldest one first
	sent   int
	coming []int // how often each has come to the forge
}

const (
	aRequest = "request"
	theToken = "token"
)

// far returns how many steps it is from one smith to another one.
func far(on []int, from, to int) int {
	if from == to {
		return 0
	}
	if from > to {
		return 1 + far(on, on[from], to)
	}
	return 1 + far(on, from, on[to])
}

func modelOf(on []int, holder int) *model {
	n := len(on)
	m := &model{on: on, ways: make([]int, n), lists: make([][]int, n), asked: make([]bool, n), there: make([]bool, n), lines: map[between][]string{}, coming: make([]int, n)}
	for i := range n {
		m.ways[i] = i
		for j := range n {
			if m.areBeside(i, j) && far(on, j, holder) < far(on, i, holder) {
				m.ways[i] = j
			}
		}
	}
	return m
}

func (m *model) areBeside(a, b int) bool {
	return m.is(a) && m.is(b) && far(m.on, a, b) == 1
}

func (m *model) is(smith int) bool {
	return smith >= 0 && smith < len(m.on)
}

func (m *model) clone() *model {
	c := *m
	c.ways, c.asked, c.there, c.coming = slices.Clone(m.ways), slices.Clone(m.asked), slices.Clone(m.there), slices.Clone(m.coming)
	c.lists, c.lines = make([][]int, len(m.on)), map[between][]string{}
	for i, list := range m.lists {
		c.lists[i] = slices.Clone(list)
	}
	for line, messages := range m.lines {
		c.lines[line] = slices.Clone(messages)
	}
	return &c
}

func (m *model) want(smith int) api.Errno {
	if !m.is(smith) {
		return api.ErrArg
	}
	if m.there[smith] || slices.Contains(m.lists[smith], smith) {
		return api.ErrFull
	}
	m.lists[smith] = append(m.lists[smith], smith)
	m.whenever(smith)
	return api.OK
}

func (m *model) leave(smith int) api.Errno {
	if !m.is(smith) {
		return api.ErrArg
	}
	if !m.there[smith] {
		return api.ErrNone
	}
	m.there[smith] = false
	m.whenever(smith)
	return api.OK
}

func (m *model) deliver(from, to int) api.Errno {
	line := between{from, to}
	if !m.areBeside(from, to) {
		return api.ErrArg
	}
	if len(m.lines[line]) == 0 {
		return api.ErrNone
	}
	oldest := m.lines[line][0]
	m.lines[line] = m.lines[line][1:]
	if oldest == theToken {
		m.ways[to] = to
		m.asked[to] = false
	} else {
		m.lists[to] = append(m.lists[to], from)
	}
	m.whenever(to)
	return api.OK
}

// whenever does what the chapter says of it, in its words' order.
func (m *model) whenever(i int) {
	if m.ways[i] == i && !m.there[i] && len(m.lists[i]) > 0 {
		first := m.lists[i][0]
		m.lists[i] = m.lists[i][1:]
		if first == i {
			m.there[i] = true
			m.coming[i]++
		} else {
			m.ways[i] = first
			m.send(i, first, theToken)
			m.asked[i] = false
		}
	}
	if m.ways[i] != i && len(m.lists[i]) > 0 && !m.asked[i] {
		m.send(i, m.ways[i], aRequest)
		m.asked[i] = true
	}
}

func (m *model) send(from, to int, message string) {
	m.lines[between{from, to}] = append(m.lines[between{from, to}], message)
	m.sent++
}

func (m *model) at() int {
	return slices.Index(m.there, true)
}

func (m *model) flight() []api.Letter {
	var letters []api.Letter
	for from := range m.on {
		for to := range m.on {
			for _, message := range m.lines[between{from, to}] {
				letters = append(letters, api.Letter{From: from, To: to, Token: message == theToken})
			}
		}
	}
	return letters
}

// comings returns how often somebody has come to the forge.
func (m *model) comings() int {
	sum := 0
	for _, times := range m.coming {
		sum += times
	}
	return sum
}

// written writes all of the village but how many messages have been sent.
func (m *model) written() string {
	return fmt.Sprint(m.at(), m.ways, m.asked, m.lists, m.flight())
}

// writtenOf writes the same of a village, as its functions tell it.
func writtenOf(v *forge.Village, n int) string {
	ways, lists, asked := make([]int, n), make([][]int, n), make([]bool, n)
	for i := range n {
		ways[i], lists[i], asked[i] = v.Way(i), v.List(i), v.Asked(i)
	}
	return fmt.Sprint(v.At(), ways, asked, lists, v.Flight())
}

// twin is a village and its model, to which the same happens.
type twin struct {
	v *forge.Village
	m *model
}

func twinOf(t *testing.T, on []int, holder int) twin {
	t.Helper()
	return twin{newVillage(t, on, holder), modelOf(on, holder)}
}

func newVillage(t *testing.T, on []int, holder int) *forge.Village {
	t.Helper()
	v, e := forge.New(on, holder)
	if e != api.OK || v == nil {
		t.Fatalf("New(%v, %d): %d", on, holder, e)
	}
	return v
}

func (w twin) clone() twin {
	return twin{w.v.Clone(), w.m.clone()}
}

// check compares all that the functions tell.
func (w twin) check(t *testing.T) {
	t.Helper()
	if seen, want := writtenOf(w.v, len(w.m.on)), w.m.written(); seen != want {
		t.Fatalf("%v: %s, not %s", w.m.on, seen, want)
	}
	if w.v.Sent() != w.m.sent {
		t.Fatalf("%v: Sent %d, not %d", w.m.on, w.v.Sent(), w.m.sent)
	}
}

// act is a call that changes a village: of Deliver if it has a second smith, else of Want or Leave.
type act struct {
	call string
	a, b int
}

func (w twin) do(t *testing.T, c act) api.Errno {
	t.Helper()
	var e, want api.Errno
	switch c.call {
	case "want":
		e, want = w.v.Want(c.a), w.m.want(c.a)
	case "leave":
		e, want = w.v.Leave(c.a), w.m.leave(c.a)
	case "deliver":
		e, want = w.v.Deliver(c.a, c.b), w.m.deliver(c.a, c.b)
	}
	if e != want {
		t.Fatalf("%v, %v: %d, not %d", w.m.on, c, e, want)
	}
	return e
}

// goingOn returns the calls by which it goes on though nobody wants anything more.
func (m *model) goingOn() []act {
	var acts []act
	if m.at() >= 0 {
		acts = append(acts, act{"leave", m.at(), 0})
	}
	for from := range m.on {
		for to := range m.on {
			if len(m.lines[between{from, to}]) > 0 {
				acts = append(acts, act{"deliver", from, to})
			}
		}
	}
	return acts
}

// wishes returns the calls by which somebody wants the forge.
func (m *model) wishes() []act {
	var acts []act
	for i := range m.on {
		if !m.there[i] && !slices.Contains(m.lists[i], i) {
			acts = append(acts, act{"want", i, 0})
		}
	}
	return acts
}

// villages gives all villages of n smiths.
func villages(n int) [][]int {
	list := [][]int{{0}}
	for i := 1; i < n; i++ {
		var next [][]int
		for _, on := range list {
			for beside := range i {
				next = append(next, append(slices.Clone(on), beside))
			}
		}
		list = next
	}
	return list
}

// someVillages gives villages of any number of smiths, the longest row and the greatest star among them.
func someVillages(r *sequence) [][]int {
	list := [][]int{{0}, {0, 0}, {0, 0, 1, 2, 3, 4, 5, 6}, {0, 0, 0, 0, 0, 0, 0, 0}, {0, 0, 1, 1, 1, 1, 1, 1}, {0, 0, 0, 1, 1, 2, 2, 3}}
	for range 20 {
		on := make([]int, 1+r.below(api.MaxSmiths))
		for i := 1; i < len(on); i++ {
			on[i] = r.below(i)
		}
		list = append(list, on)
	}
	return list
}

// strange are numbers that are none of a smith of n.
func strange(n int) []int {
	return []int{-1, -2, n, n + 1, api.MaxSmiths, api.MaxSmiths + 1, math.MaxInt, math.MinInt}
}

// sequence makes numbers for cases: the same ones in every run.
type sequence uint64

func (r *sequence) below(n int) int {
	*r = *r*6364136223846793005 + 1442695040888963407
	return int(*r >> 33 % sequence(n))
}

// oneOf returns one of some calls, or none.
func (r *sequence) oneOf(acts []act) (act, bool) {
	if len(acts) == 0 {
		return act{}, false
	}
	return acts[r.below(len(acts))], true
}
