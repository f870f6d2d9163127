package turn

import "pritchel/api"

func checkStalk(s string) api.Errno {
	if len(s) > api.MaxStalk {
		return api.ErrLong
	}
	for i := range len(s) {
		if s[i] != 'L' && s[i] != 'R' {
			return api.ErrForm
		}
	}
	return api.OK
}

// worth returns the value of a stalk, by Berlekamp's rule. Each twig adds a whole or doubles the parts, so that 60 of them need no more than 60 bits.
func worth(s string) fraction {
	run := firsts(s)
	top, parts := int64(run), int64(1)
	if run < len(s) {
		top--
		for i := run + 1; i < len(s); i++ {
			top, parts = 2*top, 2*parts
			if s[i] == s[0] {
				top++
			}
		}
		top, parts = 2*top+1, 2*parts
	}
	if run > 0 && s[0] == 'R' {
		top = -top
	}
	return dyadic(top, parts)
}

// firsts returns how many twigs there are up to the first change of colour.
func firsts(s string) int {
	n := 0
	for n < len(s) && s[n] == s[0] {
		n++
	}
	return n
}

// written returns the stalk with a value, and whether there is one that is not too long. One more twig makes a stalk worth more or less, by its colour, and so are all stalks that go on from there.
func written(x fraction) (string, bool) {
	s := ""
	for len(s) <= api.MaxStalk {
		v := worth(s)
		switch {
		case v.less(x):
			s += "L"
		case x.less(v):
			s += "R"
		default:
			return s, true
		}
	}
	return "", false
}
