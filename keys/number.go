package keys

import (
	"math"

	"cobweb/api"
	"cobweb/floats"
	"cobweb/order"
)

// A number is put as the greatest float at most it, and the rest; of like ones the Int is below.
const (
	intForm  = 0x00
	realForm = 0x01
)

const (
	numberUsed = 12      // bytes of a number, with its mark
	signBit    = 1 << 63 // order.PutInt turns it, and a float's key is to stand as it is
)

func numberBytes(a api.Atom) []byte {
	f, rest, form := a.F, 0, byte(realForm)
	if a.Kind == api.Int {
		f, rest = floats.Floor(a.N)
		form = intForm
	}
	out := order.PutInt([]byte{numberMark}, int(floats.Key(f)^signBit))
	return append(out, byte(rest>>8), byte(rest), form)
}

// readNumber reads the number that bytes begin with, its mark among them.
func readNumber(b []byte) (api.Atom, int, api.Errno) {
	if len(b) < numberUsed {
		return api.Atom{}, 0, api.ErrEnd
	}
	key, n, e := order.ReadInt(b[1:])
	if e != api.OK {
		return api.Atom{}, 0, e
	}
	left := b[1+n : numberUsed]
	a, ok := number(uint64(key)^signBit, int(left[0])<<8|int(left[1]), left[2])
	if !ok {
		return api.Atom{}, 0, api.ErrForm
	}
	return a, numberUsed, api.OK
}

// number tells the number of a float's key, a rest and a form; false: Put tells these of none.
func number(key uint64, rest int, form byte) (api.Atom, bool) {
	f, ok := floats.Of(key)
	if !ok {
		return api.Atom{}, false
	}
	switch form {
	case intForm:
		n, ok := whole(f, rest)
		return api.Atom{Kind: api.Int, N: n}, ok
	case realForm:
		return api.Atom{Kind: api.Real, F: f}, rest == 0
	}
	return api.Atom{}, false
}

// whole tells the number that Floor splits into a float and a rest; false: there is none.
func whole(f float64, rest int) (int, bool) {
	n, ok := floats.Whole(f)
	if !ok || n > math.MaxInt-rest {
		return 0, false
	}
	n += rest
	_, left := floats.Floor(n) // the rest is this one just where the float is the floor
	return n, left == rest
}
