package forge_test

import (
	"slices"
	"testing"

	"pritchel/forge"
)

// checkState tests E1, E2, E5 and E6 of one state, by what the functions tell.
func checkState(t *testing.T, v *forge.Village, on []int) {
	t.Helper()
	ends := checkToken(t, v, len(on))
	checkWaysTo(t, v, len(on), ends)
	requests := make([]int, len(on))
	for _, l := range v.Flight() {
		if !l.Token {
			requests[l.From]++
		}
	}
	for i := range on {
		list := v.List(i)
		for at, j := range list {
			if slices.Contains(list[:at], j) {
				t.Fatalf("E6: List(%d) = %v", i, list)
			}
			if j == i {
				continue
			}
			requests[j]++
			if far(on, i, j) != 1 || !v.Asked(j) {
				t.Fatalf("E6: List(%d) = %v, Asked(%d) %v", i, list, j, v.Asked(j))
			}
		}
	}
	for i, number := range requests {
		if number > 1 {
			t.Fatalf("E5: %d has %d requests", i, number)
		}
	}
}

// checkToken tests E1, and returns who has the token, or the two between whom it is.
func checkToken(t *testing.T, v *forge.Village, n int) []int {
	t.Helper()
	var ends []int
	tokens := 0
	for i := range n {
		if v.Way(i) == i {
			ends = append(ends, i)
			tokens++
		}
	}
	for _, l := range v.Flight() {
		if l.Token {
			ends = append(ends, l.From, l.To)
			tokens++
		}
	}
	if tokens != 1 || v.At() >= 0 && !slices.Equal(ends, []int{v.At()}) {
		t.Fatalf("E1: At %d, %d tokens, at %v", v.At(), tokens, ends)
	}
	return ends
}

// checkWaysTo tests E2.
func checkWaysTo(t *testing.T, v *forge.Village, n int, ends []int) {
	t.Helper()
	for i := range n {
		at := i
		for range n {
			if !slices.Contains(ends, at) {
				at = v.Way(at)
			}
		}
		if !slices.Contains(ends, at) {
			t.Fatalf("E2: from %d one comes to %d, not to %v", i, at, ends)
		}
	}
	if len(ends) == 2 && (v.Way(ends[0]) != ends[1] || v.Way(ends[1]) != ends[0]) {
		t.Fatalf("E2: the token is between %v, but their ways lead to %d and %d", ends, v.Way(ends[0]), v.Way(ends[1]))
	}
}

// checkFew tests E4.
func checkFew(t *testing.T, w twin) {
	t.Helper()
	if n := len(w.m.on); w.v.Sent() > (n-1)*(3+2*w.m.comings()) {
		t.Fatalf("E4: %v: Sent %d, after somebody came to the forge %d times", w.m.on, w.v.Sent(), w.m.comings())
	}
}

// E1, E2, E4, E5, E6, and all that the chapter says of the calls: in every state to which a small village can come.
func TestEveryState(t *testing.T) {
	for n := 1; n <= 4; n++ {
		for _, on := range villages(n) {
			for holder := range n {
				everyState(t, twinOf(t, on, holder), func(w twin) {
					w.check(t)
					checkState(t, w.v, on)
					checkFew(t, w)
				})
			}
		}
	}
}

// everyState visits each state to which any calls lead: again, if a way to it is found on which more messages were sent than is made up for by coming to the forge.
func everyState(t *testing.T, first twin, visit func(w twin)) {
	t.Helper()
	n := len(first.m.on)
	most := map[string]int{first.m.written(): 0}
	for list := []twin{first}; len(list) > 0; list = list[1:] {
		visit(list[0])
		for _, c := range everyCall(n) {
			next := list[0].clone()
			next.do(t, c)
			name, more := next.m.written(), next.m.sent-2*(n-1)*next.m.comings()
			if before, known := most[name]; !known || more > before {
				most[name] = more
				list = append(list, next)
			}
		}
	}
}

// everyCall returns all calls for all smiths of n, and some that are refused.
func everyCall(n int) []act {
	var acts []act
	for i := -1; i <= n; i++ {
		acts = append(acts, act{"want", i, 0}, act{"leave", i, 0})
		for j := -1; j <= n; j++ {
			acts = append(acts, act{"deliver", i, j})
		}
	}
	return acts
}

// E3: from every state of a small village it comes to an end, in whatever order.
func TestEveryOrder(t *testing.T) {
	for n := 1; n <= 4; n++ {
		for _, on := range villages(n) {
			ended := map[string]bool{}
			everyState(t, twinOf(t, on, n-1), func(w twin) { everyOrder(t, w, ended) })
		}
	}
}

// everyOrder goes on from a state in all orders. A state is false in ended while some of them have not come to an end yet.
func everyOrder(t *testing.T, w twin, ended map[string]bool) {
	t.Helper()
	name := w.m.written()
	whole, known := ended[name]
	if whole {
		return
	}
	if known {
		t.Fatalf("E3: %v goes on for ever from %s", w.m.on, name)
	}
	ended[name] = false
	acts := w.m.goingOn()
	if len(acts) == 0 {
		checkQuiet(t, w)
	}
	for _, c := range acts {
		next := w.clone()
		next.do(t, c)
		everyOrder(t, next, ended)
	}
	ended[name] = true
}

// checkQuiet tests a village in which nobody is at the forge and nothing is on its way: nobody waits.
func checkQuiet(t *testing.T, w twin) {
	t.Helper()
	if w.v.At() != -1 || len(w.v.Flight()) > 0 {
		t.Fatalf("E3: %s", w.m.written())
	}
	for i := range w.m.on {
		if len(w.v.List(i)) > 0 || w.v.Asked(i) {
			t.Fatalf("E3: at last %d has the list %v, Asked %v", i, w.v.List(i), w.v.Asked(i))
		}
	}
}

// E1 to E6, and all that the chapter says of the calls: in villages of any number of smiths, in some orders.
func TestSomeOrders(t *testing.T) {
	r := sequence(3)
	for _, on := range someVillages(&r) {
		for range 6 {
			w := twinOf(t, on, r.below(len(on)))
			wishes := 0
			for range 100 + r.below(100) {
				acts := w.m.goingOn()
				if r.below(4) == 0 || len(acts) == 0 {
					acts = w.m.wishes()
				}
				c, some := r.oneOf(acts)
				if !some {
					continue
				}
				if c.call == "want" {
					wishes++
				}
				step(t, w, c)
			}
			for acts := w.m.goingOn(); len(acts) > 0; acts = w.m.goingOn() {
				c, _ := r.oneOf(acts)
				step(t, w, c)
			}
			checkQuiet(t, w)
			if w.m.comings() != wishes {
				t.Fatalf("E3: %v: %d wishes, but somebody came to the forge %d times", on, wishes, w.m.comings())
			}
		}
	}
}

func step(t *testing.T, w twin, c act) {
	t.Helper()
	w.do(t, c)
	w.check(t)
	checkState(t, w.v, w.m.on)
	checkFew(t, w)
}

// P4: everyone who wants the forge gets it, though all others want it again at once.
func TestAllInTurn(t *testing.T) {
	r := sequence(4)
	for _, on := range someVillages(&r) {
		w := twinOf(t, on, r.below(len(on)))
		for range 400 * len(on) {
			for _, c := range w.m.wishes() {
				step(t, w, c)
			}
			if c, some := r.oneOf(w.m.goingOn()); some {
				step(t, w, c)
			}
		}
		if slices.Min(w.m.coming) < 10 {
			t.Errorf("%v: they came to the forge so often: %v", on, w.m.coming)
		}
	}
}

// E4: whoever has the token, and is asked by nobody, sends nothing for itself, also where the token has come to.
func TestNothingSentForItself(t *testing.T) {
	r := sequence(5)
	for _, on := range someVillages(&r) {
		w := twinOf(t, on, r.below(len(on)))
		for range 20 {
			i := r.below(len(on))
			w.do(t, act{"want", i, 0})
			for w.v.At() < 0 {
				c, _ := r.oneOf(w.m.goingOn())
				w.do(t, c)
			}
			w.do(t, act{"leave", i, 0})
			sent := w.v.Sent()
			want(t, w.v, i)
			at := w.v.At()
			leave(t, w.v, i)
			if at != i || w.v.Sent() != sent || len(w.v.Flight()) > 0 {
				t.Fatalf("%v: %d has the token and wants the forge: At %d, Sent %d after %d", on, i, at, w.v.Sent(), sent)
			}
		}
	}
}

// E7: what happens to a clone, or to the village, is not seen from the other one.
func TestClone(t *testing.T) {
	r := sequence(6)
	for _, on := range someVillages(&r) {
		family := []twin{twinOf(t, on, r.below(len(on)))}
		for range 300 {
			if len(family) < 6 && r.below(20) == 0 {
				family = append(family, family[r.below(len(family))].clone())
			}
			w := family[r.below(len(family))]
			if c, some := r.oneOf(append(w.m.wishes(), w.m.goingOn()...)); some {
				w.do(t, c)
			}
			for _, w := range family {
				w.check(t)
			}
		}
	}
}

// E7: a clone has all that the village has; so has a clone of it, whatever becomes of the first two.
func TestCloneIsSame(t *testing.T) {
	v := busy(t)
	before, sent := writtenOf(v, 5), v.Sent()
	c := v.Clone()
	d := c.Clone()
	if c == v || d == c || d == v {
		t.Fatal("a clone is the village itself")
	}
	want(t, v, 1)
	deliver(t, c, 1, 2)
	leave(t, c, 2)
	if s := writtenOf(d, 5); s != before || d.Sent() != sent {
		t.Errorf("a clone of a clone: %s, Sent %d, not %s, %d", s, d.Sent(), before, sent)
	}
	checkFlight(t, c, [3]int{2, 1, 1})
	checkFlight(t, v, [3]int{1, 2, 0})
	checkList(t, v, 1, 3, 0, 1)
	checkAt(t, v, 2, 3)
}
