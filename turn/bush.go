package turn

import (
	"math/bits"

	"pritchel/api"
)

// set is a set of twigs: those that are left of a bush, or those that fall.
type set uint16

func (s set) has(twig int) bool {
	return s>>twig&1 == 1
}

// below returns how many twigs of the set have lower numbers, which is the new number of a twig.
func (s set) below(twig int) int {
	return bits.OnesCount16(uint16(s & (1<<twig - 1)))
}

// bush is a valid bush, of which some twigs may have been cut.
type bush struct {
	twigs  []api.Twig
	falls  []set         // what falls when a twig is cut, with the twig
	values map[set]int64 // the values of what may be left, in parts of a whole
}

// whole is how many parts a whole has. That is enough: the values of n twigs are multiples of 1/2^(n-1), since between two multiples of a unit there is one of half the unit.
const whole = 1 << (api.MaxTwigs - 1)

// far stands for no bound: no value is beyond MaxTwigs, and none is as far as the integer after that.
const far = (api.MaxTwigs + 2) * whole

func bushOf(twigs []api.Twig) (bush, api.Errno) {
	if len(twigs) > api.MaxTwigs {
		return bush{}, api.ErrLong
	}
	for i, t := range twigs {
		if t.On < -1 || t.On >= i {
			return bush{}, api.ErrForm
		}
	}
	b := bush{twigs: twigs, falls: make([]set, len(twigs)), values: map[set]int64{}}
	for i := len(twigs) - 1; i >= 0; i-- {
		b.falls[i] |= 1 << i
		if on := twigs[i].On; on >= 0 {
			b.falls[on] |= b.falls[i]
		}
	}
	return b, api.OK
}

func (b bush) all() set {
	return 1<<len(b.twigs) - 1
}

func (b bush) cut(left set, twig int) set {
	return left &^ b.falls[twig]
}

// moves returns the twigs that a player may cut.
func (b bush) moves(left set, player bool) []int {
	var twigs []int
	for i, t := range b.twigs {
		if left.has(i) && t.Left == player {
			twigs = append(twigs, i)
		}
	}
	return twigs
}

func (b bush) value(left set) int64 {
	if v, known := b.values[left]; known {
		return v
	}
	low, high := int64(-far), int64(far)
	for _, t := range b.moves(left, true) {
		low = max(low, b.value(b.cut(left, t)))
	}
	for _, t := range b.moves(left, false) {
		high = min(high, b.value(b.cut(left, t)))
	}
	v := simplest(low, high)
	b.values[left] = v
	return v
}

func (b bush) num(left set) api.Num {
	return dyadic(b.value(left), whole).num()
}

// favour returns what a value is worth to a player.
func favour(value int64, player bool) int64 {
	if player {
		return value
	}
	return -value
}

// best returns the first twig whose cutting is best for a player, and whether there is any to cut.
func (b bush) best(left set, player bool) (int, bool) {
	twig, most := 0, int64(-far)
	for _, t := range b.moves(left, player) {
		if v := favour(b.value(b.cut(left, t)), player); v > most {
			twig, most = t, v
		}
	}
	return twig, most > -far
}

// game returns the cuts of a game of best moves, each numbered as in what was left then.
func (b bush) game(player bool) []int {
	var cuts []int
	left := b.all()
	twig, can := b.best(left, player)
	for can {
		cuts = append(cuts, left.below(twig))
		left = b.cut(left, twig)
		b.forget(left)
		player = !player
		twig, can = b.best(left, player)
	}
	return cuts
}

// forget deletes the values of bushes with twigs that are gone: no move leads to them again.
func (b bush) forget(left set) {
	for s := range b.values {
		if s&^left != 0 {
			delete(b.values, s)
		}
	}
}

// numbered returns what is left as a bush of its own.
func (b bush) numbered(left set) []api.Twig {
	var twigs []api.Twig
	for i, t := range b.twigs {
		if left.has(i) {
			if t.On >= 0 {
				t.On = left.below(t.On)
			}
			twigs = append(twigs, t)
		}
	}
	return twigs
}
