package order_test

import (
	"bytes"
	"cmp"
	"encoding/hex"
	"math"
	"strings"
	"testing"

	"cobweb/api"
	"cobweb/order"
)

// unhex tells the bytes of digits that may have blanks between them.
func unhex(t *testing.T, s string) []byte {
	t.Helper()
	b, err := hex.DecodeString(strings.ReplaceAll(s, " ", ""))
	if err != nil {
		t.Fatal(err)
	}
	return b
}

// words tells all lists of at most so many bytes of some.
func words(of string, most int) []string {
	out := []string{""}
	for from, n := 0, 0; n < most; n++ {
		to := len(out)
		for _, w := range out[from:to] {
			for i := range len(of) {
				out = append(out, w+of[i:i+1])
			}
		}
		from = to
	}
	return out
}

// sign tells the order of two texts, byte by byte, without package order.
func sign(a, b string) int {
	for i := 0; i < len(a) && i < len(b); i++ {
		if a[i] != b[i] {
			return cmp.Compare(a[i], b[i])
		}
	}
	return cmp.Compare(len(a), len(b))
}

// ints tells numbers at all the edges, rising.
func ints() []int {
	var up []int
	for k := 2; k < 63; k++ {
		up = append(up, 1<<k-1, 1<<k)
		if k > 2 {
			up = append(up, 1<<k+1)
		}
	}
	up = append(up, math.MaxInt-1, math.MaxInt)
	var all []int
	all = append(all, math.MinInt)
	for i := len(up) - 1; i >= 0; i-- {
		all = append(all, -up[i])
	}
	all = append(all, -2, -1, 0, 1, 2)
	return append(all, up...)
}

// P1.1

func TestPutInt(t *testing.T) {
	for _, c := range []struct {
		b    string
		n    int
		want string
	}{
		{"", math.MinInt, "00 00 00 00 00 00 00 00"},
		{"", math.MinInt + 1, "00 00 00 00 00 00 00 01"},
		{"", -1, "7f ff ff ff ff ff ff ff"},
		{"", 0, "80 00 00 00 00 00 00 00"},
		{"", 1, "80 00 00 00 00 00 00 01"},
		{"", 0x0102030405060708, "81 02 03 04 05 06 07 08"},
		{"", math.MaxInt - 1, "ff ff ff ff ff ff ff fe"},
		{"", math.MaxInt, "ff ff ff ff ff ff ff ff"},
		{"00 ff 61", 256, "00 ff 61 80 00 00 00 00 00 01 00"},
	} {
		if got := order.PutInt(unhex(t, c.b), c.n); !bytes.Equal(got, unhex(t, c.want)) {
			t.Errorf("PutInt(%s, %d) = % x, not %s", c.b, c.n, got, c.want)
		}
	}
	if got := order.PutInt(nil, 0); !bytes.Equal(got, unhex(t, "8000000000000000")) {
		t.Errorf("PutInt(nil, 0) = % x", got)
	}
}

func TestReadInt(t *testing.T) {
	for _, c := range []struct {
		b    string
		n    int
		used int
		e    api.Errno
	}{
		{"", 0, 0, api.ErrEnd},
		{"80", 0, 0, api.ErrEnd},
		{"ff ff ff ff ff ff ff", 0, 0, api.ErrEnd},
		{"00 00 00 00 00 00 00 00", math.MinInt, 8, api.OK},
		{"7f ff ff ff ff ff ff ff", -1, 8, api.OK},
		{"80 00 00 00 00 00 00 00", 0, 8, api.OK},
		{"81 02 03 04 05 06 07 08", 0x0102030405060708, 8, api.OK},
		{"ff ff ff ff ff ff ff ff", math.MaxInt, 8, api.OK},
		{"80 00 00 00 00 00 00 05 ff", 5, 8, api.OK},
		{"80 00 00 00 00 00 00 05 00 01 02 03 04 05 06 07 08", 5, 8, api.OK},
	} {
		if n, used, e := order.ReadInt(unhex(t, c.b)); n != c.n || used != c.used || e != c.e {
			t.Errorf("ReadInt(%s) = %d, %d, %d, not %d, %d, %d", c.b, n, used, e, c.n, c.used, c.e)
		}
	}
	if n, used, e := order.ReadInt(nil); n != 0 || used != 0 || e != api.ErrEnd {
		t.Errorf("ReadInt(nil) = %d, %d, %d", n, used, e)
	}
}

func TestReadIntLeavesSpareRoom(t *testing.T) {
	b := order.PutInt(nil, 7)
	for n := range 8 {
		if got, used, e := order.ReadInt(b[:n]); got != 0 || used != 0 || e != api.ErrEnd {
			t.Errorf("of %d bytes: %d, %d, %d", n, got, used, e)
		}
	}
}

// P1.2

func TestPutText(t *testing.T) {
	for _, c := range []struct{ b, s, want string }{
		{"", "", "00 01"},
		{"", "a", "61 00 01"},
		{"", "a\x00", "61 00 ff 00 01"},
		{"", "\x00", "00 ff 00 01"},
		{"", "\x00\x00", "00 ff 00 ff 00 01"},
		{"", "\xff", "ff 00 01"},
		{"", "\x00\xff", "00 ff ff 00 01"},
		{"", "\x00\x01", "00 ff 01 00 01"},
		{"", "\xff\x00\x01\xc3\xa4", "ff 00 ff 01 c3 a4 00 01"},
		{"00 01 ff", "b\x00c", "00 01 ff 62 00 ff 63 00 01"},
	} {
		if got := order.PutText(unhex(t, c.b), c.s); !bytes.Equal(got, unhex(t, c.want)) {
			t.Errorf("PutText(%s, %q) = % x, not %s", c.b, c.s, got, c.want)
		}
	}
	if got := order.PutText(nil, ""); !bytes.Equal(got, []byte{0, 1}) {
		t.Errorf("PutText(nil, nothing) = % x", got)
	}
}

func TestReadText(t *testing.T) {
	for _, c := range []struct {
		b    string
		s    string
		used int
		e    api.Errno
	}{
		{"", "", 0, api.ErrEnd},
		{"61", "", 0, api.ErrEnd},
		{"00", "", 0, api.ErrEnd},
		{"61 ff 00", "", 0, api.ErrEnd},
		{"00 ff", "", 0, api.ErrEnd},
		{"61 00 ff 00", "", 0, api.ErrEnd},
		{"01", "", 0, api.ErrEnd},
		{"00 00", "", 0, api.ErrForm},
		{"00 00 01", "", 0, api.ErrForm},
		{"00 02", "", 0, api.ErrForm},
		{"61 00 fe 00 01", "", 0, api.ErrForm},
		{"61 00 ff 00 61 00 01", "", 0, api.ErrForm},
		{"61 00 02 62", "", 0, api.ErrForm}, // the form is wrong ahead of where the end is missing
		{"00 01", "", 2, api.OK},
		{"61 00 01", "a", 3, api.OK},
		{"61 00 ff 00 01", "a\x00", 5, api.OK},
		{"00 ff ff 00 01", "\x00\xff", 5, api.OK},
		{"00 ff 01 00 01", "\x00\x01", 5, api.OK},
		{"00 01 00 02", "", 2, api.OK}, // what stands behind may be anything
		{"00 01 00", "", 2, api.OK},
		{"61 00 01 ff", "a", 3, api.OK},
		{"61 00 01 62 00 01", "a", 3, api.OK},
	} {
		if s, used, e := order.ReadText(unhex(t, c.b)); s != c.s || used != c.used || e != c.e {
			t.Errorf("ReadText(%s) = %q, %d, %d, not %q, %d, %d", c.b, s, used, e, c.s, c.used, c.e)
		}
	}
	if s, used, e := order.ReadText(nil); s != "" || used != 0 || e != api.ErrEnd {
		t.Errorf("ReadText(nil) = %q, %d, %d", s, used, e)
	}
}

func TestReadTextLeavesSpareRoom(t *testing.T) {
	b := order.PutText(nil, "a\x00b")
	for n := range len(b) {
		if s, used, e := order.ReadText(b[:n]); s != "" || used != 0 || e != api.ErrEnd {
			t.Errorf("of %d bytes: %q, %d, %d", n, s, used, e)
		}
	}
}

// readSlowly reads a text byte by byte, as the chapter says it.
func readSlowly(b string) (string, int, api.Errno) {
	s, behindZero := "", false
	for i := range len(b) {
		switch {
		case behindZero && b[i] == 1:
			return s, i + 1, api.OK
		case behindZero && b[i] != 0xff:
			return "", 0, api.ErrForm
		case behindZero:
			s, behindZero = s+"\x00", false
		case b[i] == 0:
			behindZero = true
		default:
			s += b[i : i+1]
		}
	}
	return "", 0, api.ErrEnd
}

func TestReadTextOfAllBytes(t *testing.T) {
	for _, b := range words("\x00\x01\x02\xfe\xff", 6) {
		s, used, e := order.ReadText([]byte(b))
		ws, wused, we := readSlowly(b)
		if s != ws || used != wused || e != we {
			t.Fatalf("ReadText(% x) = %q, %d, %d, not %q, %d, %d", b, s, used, e, ws, wused, we)
		}
	}
}

// P1.3

func TestCompare(t *testing.T) {
	for _, c := range []struct {
		a, b string
		want int
	}{
		{"", "", 0}, {"", "00", -1}, {"00", "", 1},
		{"00", "00", 0}, {"00", "00 00", -1}, {"ff", "ff ff", -1},
		{"61", "62", -1}, {"61 ff", "62", -1}, {"7f", "80", -1}, {"00", "ff", -1},
		{"ff", "fe ff", 1}, {"61 62 63", "61 62 64", -1}, {"61 62 63", "61 62 63", 0},
	} {
		a, b := unhex(t, c.a), unhex(t, c.b)
		if got := order.Compare(a, b); got != c.want {
			t.Errorf("Compare(%s, %s) = %d, not %d", c.a, c.b, got, c.want)
		}
		if got := order.Compare(b, a); got != -c.want {
			t.Errorf("Compare(%s, %s) = %d, not %d", c.b, c.a, got, -c.want)
		}
	}
	if order.Compare(nil, nil) != 0 || order.Compare(nil, []byte{}) != 0 || order.Compare(nil, []byte{0}) != -1 {
		t.Error("nil is not as no bytes")
	}
}

func TestCompareOfAllBytes(t *testing.T) {
	all := words("\x00\x01\x7f\x80\xff", 3)
	for _, a := range all {
		for _, b := range all {
			if got := order.Compare([]byte(a), []byte(b)); got != sign(a, b) {
				t.Fatalf("Compare(% x, % x) = %d", a, b, got)
			}
		}
	}
}

func TestAfter(t *testing.T) {
	for _, c := range []struct {
		prefix, want string
		ok           bool
	}{
		{"", "", false},
		{"ff", "", false},
		{"ff ff ff", "", false},
		{"00", "01", true},
		{"61", "62", true},
		{"fe", "ff", true},
		{"61 ff", "62", true},
		{"61 ff ff ff", "62", true},
		{"61 ff 62", "61 ff 63", true},
		{"ff 00", "ff 01", true},
		{"ff fe ff", "ff ff", true},
		{"00 00", "00 01", true},
		{"61 7f", "61 80", true},
	} {
		got, ok := order.After(unhex(t, c.prefix))
		if !bytes.Equal(got, unhex(t, c.want)) || ok != c.ok {
			t.Errorf("After(%s) = % x, %v, not %s, %v", c.prefix, got, ok, c.want, c.ok)
		}
	}
	if got, ok := order.After(nil); len(got) != 0 || ok {
		t.Errorf("After(nil) = % x, %v", got, ok)
	}
}

func TestAfterLeavesSpareRoom(t *testing.T) {
	b := []byte("a\xff\x00")
	if got, ok := order.After(b[:2]); string(got) != "b" || !ok {
		t.Errorf("After = % x, %v", got, ok)
	}
	if got, ok := order.After(b[:0]); len(got) != 0 || ok {
		t.Errorf("After of nothing = % x, %v", got, ok)
	}
}

// P1.4

// tails tells what may stand behind.
func tails() []string {
	return []string{"", "\x00", "\x00\x01", "\x00\xff", "\x01", "a", "\xff", "\xff\xff\xff"}
}

func TestIntsAreRead(t *testing.T) {
	for _, n := range ints() {
		for _, tail := range tails() {
			b := append(order.PutInt(nil, n), tail...)
			if got, used, e := order.ReadInt(b); got != n || used != 8 || e != api.OK {
				t.Fatalf("ReadInt(% x) = %d, %d, %d, not %d", b, got, used, e, n)
			}
		}
	}
}

func TestReadIntsArePutSo(t *testing.T) {
	for i := range 256 {
		for at := range 8 {
			b := unhex(t, "123456789abcdef0")
			b[at] = byte(i)
			n, used, e := order.ReadInt(b)
			if got := order.PutInt(nil, n); used != 8 || e != api.OK || !bytes.Equal(got, b) {
				t.Fatalf("% x is read as %d, that is put % x", b, n, got)
			}
		}
	}
}

func TestIntsAreInOrder(t *testing.T) {
	all := ints()
	for _, a := range all {
		for _, b := range all {
			pa, pb := order.PutInt([]byte("p"), a), order.PutInt([]byte("p"), b)
			if order.Compare(pa, pb) != cmp.Compare(a, b) {
				t.Fatalf("%d and %d: % x and % x", a, b, pa, pb)
			}
		}
	}
	for i := 1; i < len(all); i++ {
		low, high := order.PutInt(nil, all[i-1]), order.PutInt(nil, all[i])
		for _, tail := range tails() {
			if order.Compare(append(low, tail...), high) != -1 || order.Compare(low, append(high, tail...)) != -1 {
				t.Fatalf("%d and %d, with % x behind", all[i-1], all[i], tail)
			}
		}
	}
}

func TestTextsAreRead(t *testing.T) {
	for _, s := range words("\x00\x01a\xff", 4) {
		put := order.PutText(nil, s)
		for _, tail := range tails() {
			b := append(put, tail...)
			if got, used, e := order.ReadText(b); got != s || used != len(put) || e != api.OK {
				t.Fatalf("ReadText(% x) = %q, %d, %d, not %q", b, got, used, e, s)
			}
		}
	}
}

func TestLongTextIsRead(t *testing.T) {
	var all []byte
	for i := range 1 << 16 {
		all = append(all, byte(i), byte(i>>8))
	}
	put := order.PutText([]byte("b"), string(all))
	if got, used, e := order.ReadText(put[1:]); got != string(all) || used != len(put)-1 || e != api.OK {
		t.Errorf("%d bytes, %d, %d", len(got), used, e)
	}
}

func TestReadTextsArePutSo(t *testing.T) {
	for _, w := range words("\x00\x01\x02\xff", 6) {
		s, used, e := order.ReadText([]byte(w))
		if e != api.OK {
			continue
		}
		if got := order.PutText(nil, s); string(got) != w[:used] {
			t.Fatalf("% x is read as %q, that is put % x", w, s, got)
		}
	}
}

func TestTextsAreInOrder(t *testing.T) {
	all := words("\x00\x01\xfe\xff", 3)
	for _, a := range all {
		for _, b := range all {
			pa, pb := order.PutText([]byte("p"), a), order.PutText([]byte("p"), b)
			for _, tail := range tails() {
				if a == b {
					continue
				}
				if order.Compare(append(pa, tail...), pb) != sign(a, b) || order.Compare(pa, append(pb, tail...)) != sign(a, b) {
					t.Fatalf("%q and %q, with % x behind", a, b, tail)
				}
			}
			if order.Compare(pa, pb) != sign(a, b) {
				t.Fatalf("%q and %q: % x and % x", a, b, pa, pb)
			}
		}
	}
}

func TestAfterIsTheLeastAboveAll(t *testing.T) {
	all := words("\x00\x01\x02\xfe\xff", 4)
	for _, p := range words("\x00\x01\xfe\xff", 3) {
		after, ok := order.After([]byte(p))
		for _, x := range all {
			within := strings.HasPrefix(x, p)
			above := !within && sign(x, p) > 0
			switch {
			case !ok && above:
				t.Fatalf("After(% x) tells nothing, but % x is above all", p, x)
			case ok && within && order.Compare(after, []byte(x)) != 1:
				t.Fatalf("After(% x) = % x is not above % x", p, after, x)
			case ok && above && order.Compare(after, []byte(x)) == 1:
				t.Fatalf("After(% x) = % x is above % x, that is above all", p, after, x)
			}
		}
	}
}

// Rule 4: what is handed in is left as it is, and what is handed out is new memory.

// calls tells each call that hands out bytes.
func calls() map[string]func([]byte) []byte {
	return map[string]func([]byte) []byte{
		"PutInt":   func(b []byte) []byte { return order.PutInt(b, -2) },
		"PutText":  func(b []byte) []byte { return order.PutText(b, "x\x00y") },
		"PutText0": func(b []byte) []byte { return order.PutText(b, "") },
		"After":    func(b []byte) []byte { a, _ := order.After(b); return a },
		"ReadInt":  func(b []byte) []byte { order.ReadInt(b); return nil },
		"ReadText": func(b []byte) []byte { order.ReadText(b); return nil },
		"Compare":  func(b []byte) []byte { order.Compare(b, b); return nil },
	}
}

func TestWhatIsHandedInStays(t *testing.T) {
	for name, call := range calls() {
		whole := []byte("abc\x00\xff\x00\x01zzzz" + strings.Repeat("s", 40))
		was := bytes.Clone(whole)
		for n := range 12 {
			call(whole[:n])
			if !bytes.Equal(whole, was) {
				t.Errorf("%s of %d bytes changed them, or what is behind", name, n)
			}
		}
	}
}

func TestWhatIsHandedOutIsNew(t *testing.T) {
	for name, call := range calls() {
		for _, spare := range []int{0, 1, 40} {
			whole := []byte("abc\xff" + strings.Repeat("s", spare))
			was := bytes.Clone(whole)
			one, two := call(whole[:4]), call(whole[:4])
			kept := bytes.Clone(two)
			for i := range one[:cap(one)] {
				one[:cap(one)][i] = '#'
			}
			if !bytes.Equal(whole, was) || !bytes.Equal(two, kept) {
				t.Errorf("%s shares memory, with %d bytes spare", name, spare)
			}
			clear(whole)
			if !bytes.Equal(two, kept) {
				t.Errorf("%s keeps what was handed in, with %d bytes spare", name, spare)
			}
		}
	}
}

func TestReadTextIsKeptApart(t *testing.T) {
	b := []byte("abc\x00\x01")
	s, _, _ := order.ReadText(b)
	clear(b)
	if s != "abc" {
		t.Errorf("%q", s)
	}
}
