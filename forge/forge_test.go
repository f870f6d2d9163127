package forge_test

import (
	"fmt"
	"math"
	"slices"
	"testing"

	"pritchel/api"
	"pritchel/forge"
)

func want(t *testing.T, v *forge.Village, smiths ...int) {
	t.Helper()
	for _, i := range smiths {
		if e := v.Want(i); e != api.OK {
			t.Fatalf("Want(%d): %d", i, e)
		}
	}
}

func leave(t *testing.T, v *forge.Village, smith int) {
	t.Helper()
	if e := v.Leave(smith); e != api.OK {
		t.Fatalf("Leave(%d): %d", smith, e)
	}
}

func deliver(t *testing.T, v *forge.Village, from, to int) {
	t.Helper()
	if e := v.Deliver(from, to); e != api.OK {
		t.Fatalf("Deliver(%d, %d): %d", from, to, e)
	}
}

// checkFlight compares the messages on their way: that of three numbers each, the third one being 1 for the token.
func checkFlight(t *testing.T, v *forge.Village, letters ...[3]int) {
	t.Helper()
	var want []api.Letter
	for _, l := range letters {
		want = append(want, api.Letter{From: l[0], To: l[1], Token: l[2] == 1})
	}
	if f := v.Flight(); !slices.Equal(f, want) {
		t.Errorf("Flight = %v, not %v", f, want)
	}
}

func checkAt(t *testing.T, v *forge.Village, at, sent int) {
	t.Helper()
	if v.At() != at || v.Sent() != sent {
		t.Errorf("At %d, Sent %d, not %d, %d", v.At(), v.Sent(), at, sent)
	}
}

func checkList(t *testing.T, v *forge.Village, smith int, want ...int) {
	t.Helper()
	if l := v.List(smith); !slices.Equal(l, want) {
		t.Errorf("List(%d) = %v, not %v", smith, l, want)
	}
}

// checkWays compares the ways of all smiths, and who has asked.
func checkWays(t *testing.T, v *forge.Village, ways []int, asked ...int) {
	t.Helper()
	for i, way := range ways {
		if v.Way(i) != way || v.Asked(i) != slices.Contains(asked, i) {
			t.Errorf("Way(%d) = %d, not %d; Asked %v", i, v.Way(i), way, v.Asked(i))
		}
	}
}

// The chapter's examples 1 and 2.
func TestTwoSmiths(t *testing.T) {
	v := newVillage(t, []int{0, 0}, 0)
	checkWays(t, v, []int{0, 0})
	want(t, v, 1)
	checkFlight(t, v, [3]int{1, 0, 0})
	checkWays(t, v, []int{0, 0}, 1)
	checkList(t, v, 1, 1)
	deliver(t, v, 1, 0)
	checkFlight(t, v, [3]int{0, 1, 1})
	checkWays(t, v, []int{1, 0}, 1)
	checkAt(t, v, -1, 2)
	deliver(t, v, 0, 1)
	checkFlight(t, v)
	checkAt(t, v, 1, 2)
	checkWays(t, v, []int{1, 1})
	checkList(t, v, 1)

	want(t, v, 0)
	checkFlight(t, v, [3]int{0, 1, 0})
	deliver(t, v, 0, 1)
	checkList(t, v, 1, 0)
	checkAt(t, v, 1, 3)
	leave(t, v, 1)
	checkFlight(t, v, [3]int{1, 0, 1})
	checkAt(t, v, -1, 4)
	checkWays(t, v, []int{1, 0}, 0)
	deliver(t, v, 1, 0)
	checkAt(t, v, 0, 4)
}

// The chapter's example 3.
func TestThreeInRow(t *testing.T) {
	v := newVillage(t, []int{0, 0, 1}, 0)
	checkWays(t, v, []int{0, 0, 1})
	want(t, v, 0)
	checkAt(t, v, 0, 0)
	checkFlight(t, v)
	checkList(t, v, 0)
}

// DOC.md's example 10: a request goes to the token, and the token comes back.
func TestRequestGoesToToken(t *testing.T) {
	v := newVillage(t, []int{0, 0, 1}, 0)
	want(t, v, 2)
	checkFlight(t, v, [3]int{2, 1, 0})
	deliver(t, v, 2, 1)
	checkFlight(t, v, [3]int{1, 0, 0})
	checkList(t, v, 1, 2)
	checkWays(t, v, []int{0, 0, 1}, 1, 2)
	deliver(t, v, 1, 0)
	checkFlight(t, v, [3]int{0, 1, 1})
	deliver(t, v, 0, 1)
	checkFlight(t, v, [3]int{1, 2, 1})
	checkList(t, v, 1)
	checkWays(t, v, []int{1, 2, 1}, 2)
	deliver(t, v, 1, 2)
	checkAt(t, v, 2, 4)
	checkWays(t, v, []int{1, 2, 2})
}

func TestSmithAlone(t *testing.T) {
	v := newVillage(t, []int{0}, 0)
	for range 3 {
		checkAt(t, v, -1, 0)
		want(t, v, 0)
		checkAt(t, v, 0, 0)
		leave(t, v, 0)
	}
	if e := v.Deliver(0, 0); e != api.ErrArg {
		t.Errorf("Deliver(0, 0): %d", e)
	}
}

// Who gives the token away asks for it again, if others wait; the request comes after the token.
func TestTokenThenRequest(t *testing.T) {
	v := newVillage(t, []int{0, 0, 0}, 0)
	want(t, v, 0, 1, 2)
	deliver(t, v, 2, 0)
	deliver(t, v, 1, 0)
	checkList(t, v, 0, 2, 1)
	leave(t, v, 0)
	checkFlight(t, v, [3]int{0, 2, 1}, [3]int{0, 2, 0})
	checkWays(t, v, []int{2, 0, 0}, 0, 1, 2)
	checkAt(t, v, -1, 4)
	deliver(t, v, 0, 2)
	checkFlight(t, v, [3]int{0, 2, 0})
	checkAt(t, v, 2, 4)
	deliver(t, v, 0, 2)
	checkList(t, v, 2, 0)
	want(t, v, 0)
	checkList(t, v, 0, 1, 0)
	checkAt(t, v, 2, 4)
	leave(t, v, 2)
	checkFlight(t, v, [3]int{2, 0, 1})
}

// A smith who has asked for one asks not again for another one.
func TestAsksOnce(t *testing.T) {
	v := newVillage(t, []int{0, 0, 1, 1}, 0)
	want(t, v, 0, 2, 3)
	deliver(t, v, 2, 1)
	checkAt(t, v, 0, 3)
	deliver(t, v, 3, 1)
	want(t, v, 1)
	checkAt(t, v, 0, 3)
	checkList(t, v, 1, 2, 3, 1)
	checkFlight(t, v, [3]int{1, 0, 0})
}

// Messages in other directions may arrive before older ones; Flight is sorted by its ends all the same.
func TestFlightIsSorted(t *testing.T) {
	v := newVillage(t, []int{0, 0, 0, 1, 1, 2}, 0)
	want(t, v, 0, 5, 4, 3, 2, 1)
	checkFlight(t, v, [3]int{1, 0, 0}, [3]int{2, 0, 0}, [3]int{3, 1, 0}, [3]int{4, 1, 0}, [3]int{5, 2, 0})
	deliver(t, v, 3, 1)
	deliver(t, v, 5, 2)
	deliver(t, v, 2, 0)
	deliver(t, v, 1, 0)
	leave(t, v, 0)
	checkFlight(t, v, [3]int{0, 2, 1}, [3]int{0, 2, 0}, [3]int{4, 1, 0})
	deliver(t, v, 0, 2)
	leave(t, v, 2)
	checkFlight(t, v, [3]int{0, 2, 0}, [3]int{2, 5, 1}, [3]int{4, 1, 0})
}

func TestBeginning(t *testing.T) {
	for n := 1; n <= 6; n++ {
		for _, on := range villages(n) {
			for holder := range n {
				twinOf(t, on, holder).check(t)
			}
		}
	}
	r := sequence(1)
	for _, on := range someVillages(&r) {
		for holder := range on {
			twinOf(t, on, holder).check(t)
		}
	}
}

func TestErrorsOfNew(t *testing.T) {
	for _, c := range []struct {
		on     []int
		holder int
	}{
		{nil, 0},
		{[]int{}, 0},
		{[]int{}, -1},
		{[]int{1}, 0},
		{[]int{-1}, 0},
		{[]int{1, 0}, 0},
		{[]int{-1, 0}, 0},
		{[]int{0, 1}, 0},
		{[]int{0, 2}, 0},
		{[]int{0, -1}, 0},
		{[]int{0, 0, 2}, 0},
		{[]int{0, 0, 0, -1}, 0},
		{[]int{0, 0, 0, 4, 1}, 0},
		{[]int{0, math.MaxInt}, 0},
		{[]int{0, math.MinInt}, 0},
		{[]int{math.MinInt}, math.MinInt},
		{make([]int, api.MaxSmiths+1), 0},
		{make([]int, 1000), 0},
	} {
		if v, e := forge.New(c.on, c.holder); v != nil || e != api.ErrArg {
			t.Errorf("New(%v, %d) = %v, %d", c.on, c.holder, v, e)
		}
	}
	for n := 1; n <= api.MaxSmiths; n++ {
		for _, holder := range strange(n) {
			if v, e := forge.New(make([]int, n), holder); v != nil || e != api.ErrArg {
				t.Errorf("New of %d, %d = %v, %d", n, holder, v, e)
			}
		}
		if v, e := forge.New(make([]int, n), n-1); v == nil || e != api.OK {
			t.Errorf("New of %d, %d: %d", n, n-1, e)
		}
	}
}

// busy returns a village in which one is at the forge, others wait, and messages are on their way.
func busy(t *testing.T) *forge.Village {
	v := newVillage(t, []int{0, 0, 1, 1, 0}, 2)
	want(t, v, 2, 3, 0)
	deliver(t, v, 3, 1)
	deliver(t, v, 0, 1)
	return v
}

// P6: a call that is refused changes nothing.
func TestRefused(t *testing.T) {
	v := busy(t)
	before := writtenOf(v, 5)
	refused := func(e, want api.Errno, call ...any) {
		t.Helper()
		if e != want {
			t.Errorf("%v: %d, not %d", call, e, want)
		}
		if after := writtenOf(v, 5); after != before || v.Sent() != 3 {
			t.Fatalf("%v: %s, Sent %d, not %s", call, after, v.Sent(), before)
		}
	}
	for _, i := range strange(5) {
		refused(v.Want(i), api.ErrArg, "Want", i)
		refused(v.Leave(i), api.ErrArg, "Leave", i)
		for _, j := range append(strange(5), 0, 1, 2, 3, 4) {
			refused(v.Deliver(i, j), api.ErrArg, "Deliver", i, j)
			refused(v.Deliver(j, i), api.ErrArg, "Deliver", j, i)
		}
	}
	for _, i := range []int{2, 3, 0} {
		refused(v.Want(i), api.ErrFull, "Want", i)
	}
	for _, i := range []int{0, 1, 3, 4} {
		refused(v.Leave(i), api.ErrNone, "Leave", i)
	}
	for i := range 5 {
		for j := range 5 {
			if far([]int{0, 0, 1, 1, 0}, i, j) != 1 {
				refused(v.Deliver(i, j), api.ErrArg, "Deliver", i, j)
			} else if i != 1 || j != 2 {
				refused(v.Deliver(i, j), api.ErrNone, "Deliver", i, j)
			}
		}
	}
}

func TestNoSuchSmith(t *testing.T) {
	v := busy(t)
	for _, i := range strange(5) {
		if v.Way(i) != -1 || v.Asked(i) || len(v.List(i)) > 0 {
			t.Errorf("of %d: Way %d, Asked %v, List %v", i, v.Way(i), v.Asked(i), v.List(i))
		}
	}
}

func TestNoVillage(t *testing.T) {
	made := busy(t)
	copied := *made
	for _, v := range []*forge.Village{nil, {}, new(forge.Village), &copied} {
		for _, i := range append(strange(5), 0, 1, 2) {
			if v.Way(i) != -1 || v.Asked(i) || len(v.List(i)) > 0 {
				t.Errorf("of %d: Way %d, Asked %v, List %v", i, v.Way(i), v.Asked(i), v.List(i))
			}
			errs := []api.Errno{v.Want(i), v.Leave(i), v.Deliver(i, 1), v.Deliver(1, i)}
			if !slices.Equal(errs, []api.Errno{api.ErrState, api.ErrState, api.ErrState, api.ErrState}) {
				t.Errorf("of %d: errors %v", i, errs)
			}
		}
		if v.At() != -1 || len(v.Flight()) > 0 || v.Sent() != 0 || v.Clone() != nil {
			t.Errorf("At %d, Flight %v, Sent %d, Clone %v", v.At(), v.Flight(), v.Sent(), v.Clone())
		}
	}
	if after, want := writtenOf(made, 5), writtenOf(busy(t), 5); after != want {
		t.Errorf("the village that was copied: %s, not %s", after, want)
	}
}

// R5: what is given to New may be changed later, and so may what is returned.
func TestNothingIsShared(t *testing.T) {
	on := []int{0, 0, 1, 1, 0, 99}[:5]
	v, e := forge.New(on, 2)
	if e != api.OK || !slices.Equal(on[:6], []int{0, 0, 1, 1, 0, 99}) {
		t.Fatalf("New: %d, and the numbers are %v", e, on[:6])
	}
	for i := range on {
		on[i] = 77
	}
	want(t, v, 2, 3, 0)
	deliver(t, v, 3, 1)
	deliver(t, v, 0, 1)
	before := writtenOf(v, 5)
	if before != writtenOf(busy(t), 5) {
		t.Fatalf("the village is %s", before)
	}
	for i := range 5 {
		l := v.List(i)
		l = l[:cap(l)]
		for j := range l {
			l[j] = 77
		}
	}
	f := v.Flight()
	f = f[:cap(f)]
	for j := range f {
		f[j] = api.Letter{From: 77, Token: true}
	}
	want(t, v, 1)
	checkList(t, v, 1, 3, 0, 1)
	checkFlight(t, v, [3]int{1, 2, 0})
}

// R6: the same calls have the same results.
func TestSameCalls(t *testing.T) {
	run := func() string {
		r := sequence(2)
		all := ""
		for _, on := range someVillages(&r) {
			w := twinOf(t, on, r.below(len(on)))
			for range 50 {
				if c, some := r.oneOf(append(w.m.wishes(), w.m.goingOn()...)); some {
					w.do(t, c)
					all += fmt.Sprintln(c, writtenOf(w.v, len(on)), w.v.Sent())
				}
			}
		}
		return all
	}
	if run() != run() {
		t.Error("the same calls had other results")
	}
}
