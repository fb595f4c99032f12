package keys_test

import (
	"bytes"
	"encoding/binary"
	"math"
	"math/big"
	"testing"

	"cobweb/api"
	"cobweb/keys"
	"cobweb/value"
)

// slow reads byte by byte, as the chapter says it, without the layers below; it panics with the error.
type slow struct {
	b  []byte
	at int
}

func (s *slow) next() byte {
	if s.at == len(s.b) {
		panic(api.ErrEnd)
	}
	s.at++
	return s.b[s.at-1]
}

func (s *slow) value() api.Value {
	c := s.next()
	if c != 0x40 {
		return api.Value{Atom: s.atom(c)}
	}
	v := api.Value{Atom: api.Atom{Kind: 6}}
	for c = s.next(); c != 0; c = s.next() {
		v.L = append(v.L, s.atom(c))
		if len(v.L) == 17 {
			panic(api.ErrForm)
		}
	}
	return v
}

func (s *slow) atom(c byte) api.Atom {
	switch c {
	case 0x05:
		return api.Atom{}
	case 0x10, 0x11:
		return api.Atom{Kind: 1, N: int(c - 0x10)}
	case 0x20:
		var b [11]byte
		for i := range b {
			b[i] = s.next()
		}
		return slowNumber(b)
	case 0x30, 0x31:
		return api.Atom{Kind: 4 + int(c-0x30), S: s.text()}
	}
	panic(api.ErrForm)
}

func (s *slow) text() string {
	var out []byte
	for {
		c := s.next()
		if c == 0 {
			switch s.next() {
			case 0xff:
			case 0x01:
				if len(out) > 256 {
					panic(api.ErrForm)
				}
				return string(out)
			default:
				panic(api.ErrForm)
			}
		}
		out = append(out, c)
	}
}

// slowFloat tells the float of a key, of those that Canon tells.
func slowFloat(key uint64) float64 {
	if key == math.MaxUint64 {
		return math.Float64frombits(0x7ff8000000000000)
	}
	f := math.Float64frombits(^key)
	if key>>63 == 1 {
		f = math.Float64frombits(key - 1<<63)
	}
	if f != f || f == 0 && math.Signbit(f) {
		panic(api.ErrForm)
	}
	return f
}

func slowNumber(b [11]byte) api.Atom {
	f := slowFloat(binary.BigEndian.Uint64(b[:8]))
	rest := int64(b[8])*256 + int64(b[9])
	if b[10] == 1 && rest == 0 {
		return api.Atom{Kind: 3, F: f}
	}
	if b[10] != 0 || f != f || math.IsInf(f, 0) || f != math.Floor(f) {
		panic(api.ErrForm)
	}
	n, _ := new(big.Float).SetFloat64(f).Int(nil)
	n.Add(n, big.NewInt(rest))
	next := new(big.Float).SetFloat64(math.Nextafter(f, math.Inf(1)))
	if !n.IsInt64() || new(big.Float).SetInt(n).Cmp(next) >= 0 {
		panic(api.ErrForm)
	}
	return api.Atom{Kind: 2, N: int(n.Int64())}
}

func slowRead(b []byte) (v api.Value, used int, e api.Errno) {
	defer func() {
		if left := recover(); left != nil {
			v, used, e = api.Value{}, 0, left.(api.Errno)
		}
	}()
	s := &slow{b: b}
	v = s.value()
	return v, s.at, api.OK
}

// agree holds Read against the slow reading; what is read is to be put so.
func agree(t *testing.T, b []byte) {
	t.Helper()
	v, used, e := keys.Read(b)
	want, wused, we := slowRead(b)
	if !sameValue(v, want) || used != wused || e != we {
		t.Fatalf("Read(%.100x) = %s, %d, %d, not %s, %d, %d", b, value.Print(v), used, int(e), value.Print(want), wused, int(we))
	}
	if e == api.OK && !bytes.Equal(keys.Put(nil, v), b[:used]) {
		t.Fatalf("%.100x is read as %s, that is put % x", b, value.Print(v), keys.Put(nil, v))
	}
}

func TestReadOfAllShort(t *testing.T) {
	telling := []byte{0x00, 0x01, 0x05, 0x06, 0x11, 0x20, 0x30, 0x31, 0x40, 0xff}
	all := [][]byte{{}}
	for from, n := 0, 0; n < 5; n++ {
		to := len(all)
		for _, b := range all[from:to] {
			for _, c := range telling {
				all = append(all, append(bytes.Clone(b), c))
			}
		}
		from = to
	}
	for _, b := range all {
		agree(t, b)
	}
	for c := range 256 {
		for d := range 256 {
			agree(t, []byte{byte(c)})
			agree(t, []byte{byte(c), byte(d)})
			agree(t, []byte{0x40, byte(c), byte(d)})
			agree(t, []byte{0x30, byte(c), byte(d), 0, 1})
		}
	}
}

func TestReadOfChanged(t *testing.T) {
	telling := []byte{0x00, 0x01, 0x02, 0x03, 0x04, 0x05, 0x07, 0x08, 0x10, 0x11, 0x20, 0x30, 0x31, 0x40, 0x7f, 0x80, 0xbf, 0xc3, 0xfe, 0xff}
	for _, v := range values() {
		b := keys.Put(nil, v)
		step := 1 + len(b)/300 // of the longest, that are of like bytes, not each
		for at := 0; at < len(b); at += step {
			agree(t, b[:at])
			agree(t, append(bytes.Clone(b[:at]), b[at+1:]...))
			for _, c := range telling {
				changed := bytes.Clone(b)
				changed[at] = c
				agree(t, changed)
				agree(t, append(append(bytes.Clone(b[:at]), c), b[at:]...))
			}
		}
	}
}

// rests tells rests at all the edges.
func rests() []int {
	all := []int{0}
	for k := range 16 {
		all = append(all, 1<<k-1, 1<<k, 1<<k+1)
	}
	return append(all, 1<<16-1)
}

func TestReadOfRests(t *testing.T) {
	for _, a := range numbers() {
		b := keys.Put(nil, one(a))
		for _, rest := range rests() {
			b[9], b[10] = byte(rest>>8), byte(rest)
			for _, form := range []byte{0, 1, 2, 0xff} {
				b[11] = form
				agree(t, b)
			}
		}
	}
}

func TestReadOfKeysBeside(t *testing.T) {
	for _, a := range numbers() {
		b := keys.Put(nil, one(a))
		key := binary.BigEndian.Uint64(b[1:])
		for d := range uint64(7) {
			binary.BigEndian.PutUint64(b[1:], key+d-3)
			for _, rest := range []byte{0, 1} {
				for _, form := range []byte{0, 1} {
					b[9], b[10], b[11] = 0, rest, form
					agree(t, b)
				}
			}
		}
	}
}
