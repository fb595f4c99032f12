package sector_test

import (
	"bytes"
	"math"
	"math/rand"
	"testing"

	"cobweb/api"
	"cobweb/sector"
)

const (
	maxInt = math.MaxInt
	minInt = math.MinInt
)

// disk makes one of so many sectors; full tells a sector's bytes that begin so.
func disk(t *testing.T, n int) *sector.Disk {
	t.Helper()
	d, e := sector.New(n)
	if e != api.OK || d == nil {
		t.Fatal("New", n, int(e))
	}
	return d
}

func full(s string) []byte { return append([]byte(s), make([]byte, api.Size-len(s))...) }

func read(t *testing.T, d *sector.Disk, k int) []byte {
	t.Helper()
	b, e := d.Read(k)
	if e != api.OK || len(b) != api.Size {
		t.Fatal("Read", k, len(b), int(e))
	}
	return b
}

// want holds a sector against the bytes that it begins with, zeros behind them.
func want(t *testing.T, d *sector.Disk, k int, s string) {
	t.Helper()
	if b := read(t, d, k); !bytes.Equal(b, full(s)) {
		t.Errorf("sector %d: %q, not %q", k, bytes.TrimRight(b, "\x00"), s)
	}
}

func write(t *testing.T, d *sector.Disk, k int, s string) {
	t.Helper()
	if e := d.Write(k, []byte(s)); e != api.OK {
		t.Fatal("Write", k, int(e))
	}
}

func flush(t *testing.T, d *sector.Disk) {
	t.Helper()
	if e := d.Flush(); e != api.OK {
		t.Fatal("Flush", int(e))
	}
}

func crash(t *testing.T, d *sector.Disk, keep ...int) *sector.Disk {
	t.Helper()
	c, e := d.Crash(keep)
	if e != api.OK || c == nil || c == d {
		t.Fatal("Crash", int(e))
	}
	return c
}

// counts holds what a disk tells of itself against numbers.
func counts(t *testing.T, d *sector.Disk, size, ops, waiting int) {
	t.Helper()
	if d.Len() != size || d.Ops() != ops || d.Waiting() != waiting {
		t.Errorf("Len %d Ops %d Waiting %d, not %d %d %d", d.Len(), d.Ops(), d.Waiting(), size, ops, waiting)
	}
}

// P6.1
func TestNew(t *testing.T) {
	for _, n := range []int{minInt, -1, 0, api.MaxSectors + 1, maxInt} {
		if d, e := sector.New(n); d != nil || e != api.ErrArg {
			t.Error(n, d, int(e))
		}
	}
	for _, n := range []int{1, 2, 77, api.MaxSectors - 1, api.MaxSectors} {
		d := disk(t, n)
		counts(t, d, n, 0, 0)
		for k := range n {
			want(t, d, k, "")
		}
	}
}

func TestNewOnesAreApart(t *testing.T) {
	a, b := disk(t, 2), disk(t, 2)
	write(t, a, 0, "a")
	flush(t, a)
	a.Cut(0)
	want(t, b, 0, "")
	write(t, b, 0, "b")
	want(t, a, 0, "a")
}

// P6.2
func TestReadWrite(t *testing.T) {
	d := disk(t, 3)
	write(t, d, 0, "first")
	write(t, d, 2, "last")
	want(t, d, 0, "first")
	want(t, d, 1, "")
	want(t, d, 2, "last")
	write(t, d, 0, "x")
	want(t, d, 0, "x")
	flush(t, d)
	want(t, d, 0, "x")
	want(t, d, 2, "last")
	write(t, d, 0, "")
	want(t, d, 0, "")
	if e := d.Write(2, nil); e != api.OK {
		t.Error(int(e))
	}
	want(t, d, 2, "")
	flush(t, d)
	want(t, d, 0, "")
	want(t, d, 2, "")
}

func TestWholeSectors(t *testing.T) {
	d := disk(t, 1)
	for _, n := range []int{1, api.Size - 1, api.Size} {
		s := string(bytes.Repeat([]byte{0xff}, n))
		write(t, d, 0, s)
		want(t, d, 0, s)
	}
	for _, n := range []int{api.Size + 1, 2 * api.Size, 1 << 16} {
		if e := d.Write(0, make([]byte, n)); e != api.ErrArg {
			t.Error(n, int(e))
		}
	}
	want(t, d, 0, string(bytes.Repeat([]byte{0xff}, api.Size)))
	counts(t, d, 1, 3, 3)
}

func TestNoSuchSector(t *testing.T) {
	d := disk(t, 3)
	write(t, d, 2, "a")
	for _, k := range []int{minInt, -1, 3, 4, api.MaxSectors, maxInt} {
		if b, e := d.Read(k); len(b) != 0 || e != api.ErrArg {
			t.Error("Read", k, len(b), int(e))
		}
		if e := d.Write(k, []byte("b")); e != api.ErrArg {
			t.Error("Write", k, int(e))
		}
		if e := d.Write(k, make([]byte, api.Size+1)); e != api.ErrArg {
			t.Error("Write", k, int(e))
		}
	}
	counts(t, d, 3, 1, 1)
	want(t, d, 0, "")
	want(t, d, 1, "")
	want(t, d, 2, "a")
}

// An argument that may not be is told ahead of the cut, and is no operation.
func TestErrArgAheadOfErrCut(t *testing.T) {
	d := disk(t, 1)
	d.Cut(1)
	for _, e := range []api.Errno{d.Write(1, nil), d.Write(0, make([]byte, api.Size+1))} {
		if e != api.ErrArg {
			t.Error(int(e))
		}
	}
	counts(t, d, 1, 0, 0)
	write(t, d, 0, "a")
	for _, e := range []api.Errno{d.Write(1, nil), d.Write(-1, nil), d.Write(0, make([]byte, api.Size+1))} {
		if e != api.ErrArg {
			t.Error(int(e))
		}
	}
	if e := d.Write(0, nil); e != api.ErrCut {
		t.Error(int(e))
	}
	counts(t, d, 1, 1, 1)
}

func TestFlush(t *testing.T) {
	d := disk(t, 2)
	flush(t, d)
	counts(t, d, 2, 1, 0)
	write(t, d, 0, "a")
	write(t, d, 1, "b")
	write(t, d, 0, "c")
	want(t, crash(t, d), 0, "")
	flush(t, d)
	counts(t, d, 2, 5, 0)
	c := crash(t, d)
	want(t, c, 0, "c")
	want(t, c, 1, "b")
	flush(t, d)
	want(t, crash(t, d), 0, "c")
}

// A sector that was flushed is not what an earlier write of it left, nor does one that waits hide it.
func TestFlushedThenWritten(t *testing.T) {
	d := disk(t, 2)
	for _, s := range []string{"long one", "ab", "", "x"} {
		write(t, d, 1, s)
		want(t, d, 1, s)
		flush(t, d)
		want(t, d, 1, s)
		want(t, crash(t, d, api.Size), 1, s)
	}
}

// P6.3
func TestCut(t *testing.T) {
	for _, n := range []int{0, 1, 2, 3, 5} {
		d := disk(t, 1)
		write(t, d, 0, "a")
		d.Cut(n)
		for i := range 8 {
			op, right := d.Flush, api.OK
			if i%2 == 0 {
				op = func() api.Errno { return d.Write(0, []byte("b")) }
			}
			if i >= n {
				right = api.ErrCut
			}
			if e := op(); e != right {
				t.Error(n, i, int(e))
			}
		}
		if d.Ops() != n+1 {
			t.Error(n, d.Ops())
		}
	}
}

func TestCutThenNothingIsDone(t *testing.T) {
	d := disk(t, 2)
	write(t, d, 0, "old")
	flush(t, d)
	write(t, d, 0, "new")
	d.Cut(0)
	for range 3 {
		if e := d.Write(0, []byte("newer")); e != api.ErrCut {
			t.Error(int(e))
		}
		if e := d.Write(1, []byte("other")); e != api.ErrCut {
			t.Error(int(e))
		}
		if e := d.Flush(); e != api.ErrCut {
			t.Error(int(e))
		}
	}
	counts(t, d, 2, 3, 1)
	want(t, d, 0, "new")
	want(t, d, 1, "")
	want(t, crash(t, d), 0, "old")
	want(t, crash(t, d, 1), 0, "nld")
}

// Cut counts from now on, whatever was cut ahead of it.
func TestCutAnew(t *testing.T) {
	d := disk(t, 1)
	do := func(n int, last api.Errno) {
		t.Helper()
		for range n {
			flush(t, d)
		}
		if e := d.Flush(); e != last {
			t.Error(n, int(e))
		}
	}
	d.Cut(2)
	do(2, api.ErrCut)
	d.Cut(3)
	do(3, api.ErrCut)
	d.Cut(5)
	d.Cut(1)
	do(1, api.ErrCut)
	d.Cut(-1)
	do(40, api.OK)
	d.Cut(0)
	do(0, api.ErrCut)
	d.Cut(minInt)
	do(40, api.OK)
	d.Cut(maxInt)
	do(40, api.OK)
	d.Cut(4)
	d.Read(0)
	d.Crash(nil)
	d.Waiting()
	do(4, api.ErrCut)
	if d.Ops() != 2+3+1+41+41+41+4 {
		t.Error(d.Ops())
	}
}

// One that was not cut does as many as one likes.
func TestUncut(t *testing.T) {
	d := disk(t, 1)
	for _, d := range []*sector.Disk{d, crash(t, d)} {
		for range 1 << 17 {
			flush(t, d)
		}
		counts(t, d, 1, 1<<17, 0)
	}
}

func TestCounts(t *testing.T) {
	d := disk(t, 7)
	counts(t, d, 7, 0, 0)
	write(t, d, 1, "a")
	write(t, d, 1, "a")
	write(t, d, 2, "")
	counts(t, d, 7, 3, 3)
	d.Read(1)
	d.Cut(9)
	d.Crash([]int{1, 2})
	counts(t, d, 7, 3, 3)
	flush(t, d)
	counts(t, d, 7, 4, 0)
}

// Of nil, or of one that no call made.
func TestNone(t *testing.T) {
	for _, d := range []*sector.Disk{nil, {}} {
		d.Cut(3)
		for range 2 {
			if b, e := d.Read(0); len(b) != 0 || e != api.ErrNil {
				t.Error(len(b), int(e))
			}
			if b, e := d.Read(-1); len(b) != 0 || e != api.ErrNil {
				t.Error(len(b), int(e))
			}
			for _, e := range []api.Errno{d.Write(0, nil), d.Write(-1, make([]byte, api.Size+1)), d.Flush()} {
				if e != api.ErrNil {
					t.Error(int(e))
				}
			}
			if c, e := d.Crash([]int{1}); c != nil || e != api.ErrNil {
				t.Error(c, int(e))
			}
			counts(t, d, 0, 0, 0)
			d.Cut(0)
		}
	}
}

// P6.4
func TestCrash(t *testing.T) {
	cases := []struct {
		keep []int
		a, b string
	}{
		{nil, "old", "more"},
		{[]int{}, "old", "more"},
		{[]int{0}, "old", "more"},
		{[]int{1}, "nld", "more"},
		{[]int{2}, "ned", "more"},
		{[]int{3}, "new", "more"},
		{[]int{0, 1}, "old", "lore"},
		{[]int{0, 2}, "old", "lere"},
		{[]int{0, 3}, "old", "le\x00e"}, // the zeros behind what was written are kept, too
		{[]int{0, 4}, "old", "le"},
		{[]int{0, 0, 1}, "xld", "more"},
		{[]int{3, 0, 1}, "xew", "more"},
		{[]int{2, 0, 2}, "x\x00d", "more"},
		{[]int{api.Size, api.Size, api.Size}, "x", "le"},
		{[]int{api.Size - 1, api.Size - 1, api.Size - 1}, "x", "le"},
		{[]int{maxInt, minInt, -1}, "new", "more"},
		{[]int{-1, maxInt, 0}, "old", "le"},
		{[]int{api.Size + 1, -7, api.Size + 1}, "x", "more"},
		{[]int{0, 0, 0, api.Size, 5}, "old", "more"},
		{[]int{3, 2, 1, 9, 9, 9}, "xew", "lere"},
	}
	for _, c := range cases {
		d := disk(t, 3)
		write(t, d, 0, "old")
		write(t, d, 1, "more")
		flush(t, d)
		write(t, d, 0, "new")
		write(t, d, 1, "le")
		write(t, d, 0, "x")
		found := crash(t, d, c.keep...)
		want(t, found, 0, c.a)
		want(t, found, 1, c.b)
		want(t, found, 2, "")
		counts(t, found, 3, 0, 0)
		counts(t, d, 3, 6, 3)
		want(t, d, 0, "x")
		want(t, d, 1, "le")
	}
}

func TestCrashAtTheEndOfASector(t *testing.T) {
	ones, twos := bytes.Repeat([]byte{1}, api.Size), bytes.Repeat([]byte{2}, api.Size)
	for _, n := range []int{1, api.Size - 2, api.Size - 1, api.Size} {
		d := disk(t, 1)
		write(t, d, 0, string(ones))
		flush(t, d)
		write(t, d, 0, string(twos))
		want(t, crash(t, d, n), 0, string(twos[:n])+string(ones[n:]))
	}
}

// What a crash finds lasts; it is not cut, though the one ahead of it was.
func TestCrashIsADisk(t *testing.T) {
	d := disk(t, 2)
	write(t, d, 0, "abc")
	d.Cut(0)
	c := crash(t, d, 2)
	want(t, c, 0, "ab")
	c = crash(t, c)
	want(t, c, 0, "ab")
	for range 9 {
		write(t, c, 1, "z")
		flush(t, c)
	}
	counts(t, c, 2, 18, 0)
	if e := d.Flush(); e != api.ErrCut {
		t.Error(int(e))
	}
	if e := c.Write(2, nil); e != api.ErrArg {
		t.Error(int(e))
	}
}

// Neither disk tells what is done on the other one behind the crash.
func TestCrashIsApart(t *testing.T) {
	d := disk(t, 2)
	write(t, d, 0, "a")
	write(t, d, 1, "b")
	flush(t, d)
	write(t, d, 1, "B")
	c, other := crash(t, d, 1), crash(t, d)
	write(t, c, 0, "c")
	flush(t, c)
	c.Cut(0)
	want(t, d, 0, "a")
	want(t, other, 0, "a")
	write(t, d, 0, "d")
	flush(t, d)
	want(t, c, 0, "c")
	want(t, c, 1, "B")
	want(t, other, 0, "a")
	want(t, other, 1, "b")
	want(t, d, 1, "B")
}

// P6.5

// model is a disk, read off the chapter: each byte on its own.
type model struct {
	lasts, now [][api.Size]byte
	waits      []wait
	cut        bool
	left, ops  int
}

type wait struct {
	k int
	b [api.Size]byte
}

func modelOf(n int) *model {
	return &model{lasts: make([][api.Size]byte, n), now: make([][api.Size]byte, n)}
}

func (m *model) refused() bool {
	if m.cut && m.left == 0 {
		return true
	}
	m.left--
	m.ops++
	return false
}

func (m *model) write(k int, b []byte) api.Errno {
	if k < 0 || k >= len(m.now) || len(b) > api.Size {
		return api.ErrArg
	}
	if m.refused() {
		return api.ErrCut
	}
	w := wait{k: k}
	for i := range b {
		w.b[i] = b[i]
	}
	m.waits = append(m.waits, w)
	m.now[k] = w.b
	return api.OK
}

func (m *model) flush() api.Errno {
	if m.refused() {
		return api.ErrCut
	}
	m.waits, m.lasts = nil, append([][api.Size]byte(nil), m.now...)
	return api.OK
}

func (m *model) crash(keep []int) *model {
	c := modelOf(len(m.now))
	copy(c.lasts, m.lasts)
	for i, w := range m.waits {
		for j := range w.b {
			if i < len(keep) && j < keep[i] {
				c.lasts[w.k][j] = w.b[j]
			}
		}
	}
	copy(c.now, c.lasts)
	return c
}

func same(t *testing.T, d *sector.Disk, m *model) {
	t.Helper()
	counts(t, d, len(m.now), m.ops, len(m.waits))
	for k := range m.now {
		if b := read(t, d, k); !bytes.Equal(b, m.now[k][:]) {
			t.Fatalf("sector %d: %q, not %q", k, b, m.now[k])
		}
	}
}

func some(r *rand.Rand) []byte {
	n := []int{0, 1, 3, 8, api.Size - 1, api.Size, api.Size + 1, r.Intn(api.Size)}[r.Intn(8)]
	b := make([]byte, n)
	r.Read(b)
	return b
}

func someKeep(r *rand.Rand) []int {
	l := make([]int, r.Intn(9))
	for i := range l {
		l[i] = []int{0, api.Size, r.Intn(api.Size), r.Intn(6), -1, maxInt, minInt}[r.Intn(7)]
	}
	return l
}

func TestAgainstAModel(t *testing.T) {
	r := rand.New(rand.NewSource(6))
	for range 300 {
		n := 1 + r.Intn(4)
		d, m := disk(t, n), modelOf(n)
		for range 60 {
			var e, f api.Errno
			switch r.Intn(9) {
			case 0:
				e, f = d.Flush(), m.flush()
			case 1:
				keep := someKeep(r)
				d, m = crash(t, d, keep...), m.crash(keep)
			case 2:
				keep := someKeep(r)
				same(t, crash(t, d, keep...), m.crash(keep))
			case 3:
				n := r.Intn(40) - 10
				d.Cut(n)
				m.cut, m.left = n >= 0, n
			default:
				k, b := r.Intn(n+2)-1, some(r)
				e, f = d.Write(k, b), m.write(k, b)
			}
			if e != f {
				t.Fatal(int(e), int(f))
			}
			same(t, d, m)
		}
	}
}

// Each byte behind a crash is what was flushed, or one that was written behind that.
func TestEachByteIsOldOrNew(t *testing.T) {
	r := rand.New(rand.NewSource(7))
	for range 400 {
		d := disk(t, 2)
		may := make([][][]byte, 2)
		for k := range may {
			b := make([]byte, api.Size)
			r.Read(b)
			write(t, d, k, string(b))
			may[k] = [][]byte{b}
		}
		flush(t, d)
		for range r.Intn(5) {
			k, b := r.Intn(2), make([]byte, r.Intn(api.Size+1))
			r.Read(b)
			write(t, d, k, string(b))
			may[k] = append(may[k], full(string(b)))
		}
		c := crash(t, d, someKeep(r)...)
		for k, l := range may {
			for i, x := range read(t, c, k) {
				if !isOne(l, i, x) {
					t.Fatal(k, i, x)
				}
			}
		}
	}
}

func isOne(l [][]byte, i int, x byte) bool {
	for _, b := range l {
		if b[i] == x {
			return true
		}
	}
	return false
}

// Rule 4: what is handed in is not changed and not kept, what is handed out is new memory.
func TestMemory(t *testing.T) {
	d := disk(t, 1)
	room := []byte("abcdef")
	if e := d.Write(0, room[:3]); e != api.OK {
		t.Fatal(int(e))
	}
	if string(room) != "abcdef" {
		t.Errorf("%q", room)
	}
	want(t, d, 0, "abc")
	room[0] = 'X'
	want(t, d, 0, "abc")
	spoil := func() {
		t.Helper()
		b := read(t, d, 0)
		for i := range b[:cap(b)] {
			b[:cap(b)][i] = 7
		}
		want(t, d, 0, "abc")
	}
	spoil()
	flush(t, d)
	spoil()
	want(t, crash(t, d), 0, "abc")
	write(t, d, 0, "xyz")
	write(t, d, 0, "123")
	keep := []int{1, 5, 6}
	c := crash(t, d, keep[:1]...) // no number behind the first is one
	if keep[0] != 1 || keep[1] != 5 || keep[2] != 6 {
		t.Error(keep)
	}
	keep[0] = api.Size
	want(t, c, 0, "xbc")
	b := read(t, c, 0)
	b[1] = 7
	want(t, c, 0, "xbc")
	want(t, crash(t, d), 0, "abc")
}
