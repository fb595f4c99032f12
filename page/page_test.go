package page_test

import (
	"bytes"
	"encoding/binary"
	"hash/crc32"
	"math"
	"math/rand"
	"strings"
	"testing"

	"cobweb/api"
	"cobweb/page"
)

const (
	maxInt = math.MaxInt
	minInt = math.MinInt
	maxGen = 1 << 60
	atSum  = api.Size - 4
)

// slowSum is the sum, read off the chapter: bit by bit.
func slowSum(b []byte) uint32 {
	sum := uint32(0xffffffff)
	for _, x := range b {
		sum = sum&0xffffff00 | (sum&0xff ^ uint32(x))
		for range 8 {
			odd := sum&1 == 1
			sum = sum / 2
			if odd {
				sum ^= 0xedb88320
			}
		}
	}
	return sum ^ 0xffffffff
}

// fields are what a page is made of, also where no Seal makes one.
type fields struct {
	kind byte
	no   uint32
	gen  uint64
	size uint16
	rest []byte // what is within, and what is laid behind that
}

// bytes tells the page, with a right sum: read off the chapter.
func (f fields) bytes() []byte {
	b := []byte{f.kind}
	b = binary.LittleEndian.AppendUint32(b, f.no)
	b = binary.LittleEndian.AppendUint64(b, f.gen)
	b = binary.LittleEndian.AppendUint16(b, f.size)
	b = append(b, f.rest...)
	return summed(append(b, make([]byte, atSum-len(b))...))
}

// summed puts the sum of the bytes behind them.
func summed(b []byte) []byte {
	return binary.LittleEndian.AppendUint32(b[:atSum:atSum], slowSum(b[:atSum]))
}

func seal(t *testing.T, kind byte, no, gen int, in []byte) []byte {
	t.Helper()
	b, e := page.Seal(kind, no, gen, in)
	if e != api.OK || len(b) != api.Size {
		t.Fatal("Seal", kind, no, gen, len(in), len(b), int(e))
	}
	return b
}

// opens holds what is in a page against what must be.
func opens(t *testing.T, b []byte, kind byte, no, gen int, in []byte) {
	t.Helper()
	k, g, i, e := page.Open(b, no)
	if k != kind || g != gen || !bytes.Equal(i, in) || e != api.OK {
		t.Fatal("Open", k, g, i, int(e), "not", kind, gen, in)
	}
}

// refuses holds Open's error against the right one; all else must be zero.
func refuses(t *testing.T, b []byte, no int, right api.Errno) {
	t.Helper()
	k, g, in, e := page.Open(b, no)
	if k != 0 || g != 0 || len(in) != 0 || e != right {
		t.Errorf("Open of %d: %d %d %q %d, not %d", no, k, g, in, int(e), int(right))
	}
}

func random(r *rand.Rand, n int) []byte {
	b := make([]byte, n)
	r.Read(b)
	return b
}

// P7.1
func TestSumKnown(t *testing.T) {
	var rising, falling []byte
	for i := range 32 {
		rising, falling = append(rising, byte(i)), append(falling, byte(31-i))
	}
	for _, x := range []struct {
		b   string
		sum uint32
	}{
		{"", 0},
		{"123456789", 0xcbf43926},
		{"a", 0xe8b7be43},
		{"abc", 0x352441c2},
		{"\x00", 0xd202ef8d},
		{"\xff", 0xff000000},
		{"The quick brown fox jumps over the lazy dog", 0x414fa339},
		{strings.Repeat("\x00", 32), 0x190a55ad},
		{strings.Repeat("\xff", 32), 0xff6cab0b},
		{string(rising), 0x91267e8a},
		{string(falling), 0x9ab0ef72},
	} {
		if s := page.Sum([]byte(x.b)); s != x.sum {
			t.Errorf("%q: %08x, not %08x", x.b, s, x.sum)
		}
	}
	if s := page.Sum(nil); s != 0 {
		t.Errorf("nil: %08x", s)
	}
}

func TestSumIsTheChapters(t *testing.T) {
	same := func(b []byte) {
		t.Helper()
		if s := page.Sum(b); s != slowSum(b) || s != crc32.ChecksumIEEE(b) {
			t.Fatalf("%x: %08x, not %08x", b, s, slowSum(b))
		}
	}
	for i := range 256 {
		same([]byte{byte(i)})
		same([]byte{0, byte(i)})
		same([]byte{byte(i), 0xff})
	}
	r := rand.New(rand.NewSource(7))
	for n := range 600 {
		same(random(r, n))
	}
	same(random(r, 1<<20))
}

// A sum is of a list's bytes alone, and is the same however often it is asked.
func TestSumReadsItsBytesAlone(t *testing.T) {
	b := []byte("123456789and more")
	for range 3 {
		if s := page.Sum(b[:9]); s != 0xcbf43926 {
			t.Errorf("%08x", s)
		}
	}
	if string(b) != "123456789and more" {
		t.Errorf("%q", b)
	}
}

// P7.2
func TestSealByHand(t *testing.T) {
	b := seal(t, 0xab, 0x0c05, 0x0102030405060708, []byte("xyz"))
	head := "\xab" + "\x05\x0c\x00\x00" + "\x08\x07\x06\x05\x04\x03\x02\x01" + "\x03\x00" + "xyz"
	if !bytes.HasPrefix(b, []byte(head)) {
		t.Errorf("%x", b[:len(head)])
	}
	if len(bytes.Trim(b[len(head):atSum], "\x00")) != 0 {
		t.Errorf("no zeros: %x", b)
	}
	s := slowSum(b[:atSum])
	for i, x := range b[atSum:] {
		if x != byte(s>>(8*i)) {
			t.Errorf("sum %08x: %x", s, b[atSum:])
		}
	}
}

func TestSealIsTheChapters(t *testing.T) {
	r := rand.New(rand.NewSource(8))
	for _, n := range []int{0, 1, 2, 255, 256, 257, page.Room - 1, page.Room} {
		for _, no := range []int{0, 1, 255, 256, api.MaxSectors - 1} {
			for _, gen := range []int{0, 1, 255, 256, 1 << 32, maxGen - 1, maxGen} {
				kind, in := byte(r.Intn(256)), random(r, n)
				right := fields{kind, uint32(no), uint64(gen), uint16(n), in}.bytes()
				if b := seal(t, kind, no, gen, in); !bytes.Equal(b, right) {
					t.Fatalf("%d %d %d: %x, not %x", n, no, gen, b, right)
				}
			}
		}
	}
	if page.Room != 493 || len(seal(t, 0, 0, 0, nil)) != api.Size {
		t.Error(page.Room)
	}
}

func TestSealRefuses(t *testing.T) {
	refused := func(no, gen, n int, right api.Errno) {
		t.Helper()
		if b, e := page.Seal(1, no, gen, make([]byte, n)); len(b) != 0 || e != right {
			t.Error(no, gen, n, len(b), int(e))
		}
	}
	for _, no := range []int{minInt, -1 << 32, -1, api.MaxSectors, api.MaxSectors + 1, 1 << 16, 1 << 32, 1<<32 + 5, maxInt} {
		refused(no, 1, 3, api.ErrArg)
		refused(no, -1, 3, api.ErrArg)
		refused(no, 1, page.Room+1, api.ErrArg)
	}
	for _, gen := range []int{minInt, -maxGen, -1, maxGen + 1, 1 << 61, maxInt} {
		refused(5, gen, 3, api.ErrArg)
		refused(5, gen, page.Room+1, api.ErrArg)
	}
	for _, n := range []int{page.Room + 1, page.Room + 2, atSum, api.Size, 1 << 16, 1<<16 + 3, 1 << 20} {
		refused(5, 1, n, api.ErrBig)
		refused(0, 0, n, api.ErrBig)
		refused(api.MaxSectors-1, maxGen, n, api.ErrBig)
	}
}

// P7.3
func TestOpenOfAnotherLength(t *testing.T) {
	refuses(t, nil, 7, api.ErrForm)
	b := seal(t, 2, 7, 9, []byte("abc"))
	for n := range api.Size {
		refuses(t, b[:n], 7, api.ErrForm)
	}
	refuses(t, append(b[:api.Size:api.Size], 0), 7, api.ErrForm)
	refuses(t, append(b[:api.Size:api.Size], b...), 7, api.ErrForm)
	// A right sum behind the wrong number of bytes is of no help.
	for _, n := range []int{15, 507, 509, 1020} {
		long := append(b[:18:18], make([]byte, n)...)[:n]
		refuses(t, binary.LittleEndian.AppendUint32(long, slowSum(long)), 7, api.ErrForm)
	}
}

func TestOpenOfAnotherSum(t *testing.T) {
	refuses(t, make([]byte, api.Size), 0, api.ErrSum)
	refuses(t, bytes.Repeat([]byte{0xff}, api.Size), 0, api.ErrSum)
	b := seal(t, 2, 7, 9, []byte("abc"))
	for i := range b {
		c := bytes.Clone(b)
		c[i]++
		refuses(t, c, 7, api.ErrSum)
		refuses(t, c, 8, api.ErrSum) // ahead of what the page tells of itself
		refuses(t, c, -1, api.ErrSum)
	}
	c := bytes.Clone(b)
	binary.BigEndian.PutUint32(c[atSum:], slowSum(b[:atSum]))
	refuses(t, c, 7, api.ErrSum)
	binary.LittleEndian.PutUint32(c[atSum:], ^slowSum(b[:atSum]))
	refuses(t, c, 7, api.ErrSum)
	for _, f := range []fields{{no: 8}, {no: 7, gen: maxGen + 1}, {no: 7, size: page.Room + 1}, {no: 7, rest: []byte("a")}} {
		c := f.bytes()
		c[atSum]++
		refuses(t, c, 7, api.ErrSum)
	}
}

func TestOpenOfAnotherNumber(t *testing.T) {
	b := seal(t, 2, 7, 9, []byte("abc"))
	opens(t, b, 2, 7, 9, []byte("abc"))
	for _, no := range []int{minInt, -7, -1, 0, 6, 8, 7 + 256, api.MaxSectors + 7, 1<<16 + 7, 1<<32 + 7, 7 - 1<<32, maxInt} {
		refuses(t, b, no, api.ErrForm)
	}
	// These tell the number that is asked for, but no Seal has it.
	for _, no := range []int{api.MaxSectors, api.MaxSectors + 7, 1 << 31, 1<<32 - 1} {
		b := fields{kind: 2, no: uint32(no), gen: 9, size: 3, rest: []byte("abc")}.bytes()
		for _, n := range []int{no, no - 1<<32, no + 1<<32, no % api.MaxSectors, int(int32(no))} {
			refuses(t, b, n, api.ErrForm)
		}
	}
}

func TestOpenOfWhatNoSealTells(t *testing.T) {
	for _, gen := range []uint64{maxGen + 1, 1 << 61, 1<<63 - 1, 1 << 63, 1<<63 + 9, 1<<64 - 1} {
		refuses(t, fields{kind: 2, no: 7, gen: gen, size: 3, rest: []byte("abc")}.bytes(), 7, api.ErrForm)
	}
	whole := bytes.Repeat([]byte("z"), page.Room)
	for _, size := range []uint16{page.Room + 1, page.Room + 4, atSum, api.Size, page.Room + 256, page.Room + 512, 1 << 15, 1<<16 - 1} {
		refuses(t, fields{kind: 2, no: 7, gen: 9, size: size, rest: whole}.bytes(), 7, api.ErrForm)
		refuses(t, fields{kind: 2, no: 7, gen: 9, size: size}.bytes(), 7, api.ErrForm)
	}
}

func TestOpenOfNoZerosBehind(t *testing.T) {
	for _, n := range []int{0, 1, 100, page.Room - 1} {
		for _, at := range []int{n, (n + page.Room) / 2, page.Room - 1} {
			for _, x := range []byte{1, 0x80, 0xff} {
				rest := make([]byte, page.Room)
				rest[at] = x
				refuses(t, fields{kind: 2, no: 7, gen: 9, size: uint16(n), rest: rest}.bytes(), 7, api.ErrForm)
				opens(t, fields{kind: 2, no: 7, gen: 9, size: uint16(at + 1), rest: rest}.bytes(), 2, 7, 9, rest[:at+1])
			}
		}
	}
}

// Whatever bytes with a right sum stand there, Open takes just those that a Seal tells.
func TestOpenTakesWhatSealTells(t *testing.T) {
	r := rand.New(rand.NewSource(9))
	taken := 0
	for range 20000 {
		b := seal(t, byte(r.Intn(3)), r.Intn(3), r.Intn(3), random(r, []int{0, 1, 9, page.Room}[r.Intn(4)]))
		for range 1 + r.Intn(2) {
			b[[]int{r.Intn(18), r.Intn(atSum)}[r.Intn(2)]] = []byte{0, 1, 2, byte(r.Intn(256))}[r.Intn(4)]
		}
		b = summed(b)
		no := r.Intn(4) - 1
		kind, gen, in, e := page.Open(b, no)
		if e == api.ErrForm {
			n := int(binary.LittleEndian.Uint16(b[13:]))
			g := int(binary.LittleEndian.Uint64(b[5:]))
			if n > page.Room {
				continue
			}
			if c, e := page.Seal(b[0], no, g, b[15:15+n]); e == api.OK && bytes.Equal(b, c) {
				t.Fatalf("refused: %x", b)
			}
			continue
		}
		taken++
		if c := seal(t, kind, no, gen, in); e != api.OK || !bytes.Equal(b, c) {
			t.Fatalf("%d: taken: %x", int(e), b)
		}
	}
	if taken < 1000 || taken > 19000 {
		t.Error(taken)
	}
}

// P7.4
func TestSealedIsOpened(t *testing.T) {
	for kind := range 256 {
		opens(t, seal(t, byte(kind), 7, 9, []byte("abc")), byte(kind), 7, 9, []byte("abc"))
	}
	for no := range api.MaxSectors {
		opens(t, seal(t, 1, no, no, nil), 1, no, no, nil)
	}
	for i := range 61 {
		opens(t, seal(t, 1, 2, 1<<i, nil), 1, 2, 1<<i, nil)
		opens(t, seal(t, 1, 2, 1<<i-1, nil), 1, 2, 1<<i-1, nil)
	}
	r := rand.New(rand.NewSource(10))
	for n := range page.Room + 1 {
		for _, in := range [][]byte{make([]byte, n), bytes.Repeat([]byte{0xff}, n), random(r, n)} {
			kind, no, gen := byte(r.Intn(256)), r.Intn(api.MaxSectors), r.Intn(maxGen+1)
			opens(t, seal(t, kind, no, gen, in), kind, no, gen, in)
		}
	}
}

// turn turns the bits of a page from a place on that are set in a number, of each byte the lowest first.
func turn(b []byte, at int, bits uint32) []byte {
	c := bytes.Clone(b)
	for i := range 32 {
		if bits>>i&1 == 1 {
			c[(at+i)/8] ^= 1 << ((at + i) % 8)
		}
	}
	return c
}

func TestTurnedBitsAreFound(t *testing.T) {
	r := rand.New(rand.NewSource(11))
	for _, f := range []fields{
		{kind: 2, no: 7, gen: 9, size: 3, rest: []byte("abc")},
		{},
		{kind: 0xff, no: api.MaxSectors - 1, gen: maxGen, size: page.Room, rest: random(r, page.Room)},
	} {
		b := seal(t, f.kind, int(f.no), int(f.gen), f.rest)
		for at := range api.Size * 8 {
			for _, bits := range []uint32{1, 3, 1<<31 | 1, 1<<32 - 1, 0xedb88320 | 1, r.Uint32() | 1, r.Uint32()>>r.Intn(32) | 1} {
				if last := api.Size*8 - at; last < 32 {
					bits &= 1<<last - 1
				}
				refuses(t, turn(b, at, bits), int(f.no), api.ErrSum)
			}
		}
	}
}

// What is turned in the sum itself, in each way that two of its bytes may be, is found.
func TestTurnedSumIsFound(t *testing.T) {
	b := seal(t, 2, 7, 9, []byte("abc"))
	for x := 1; x < 1<<16; x++ {
		c := bytes.Clone(b)
		at := atSum + x%3
		c[at] ^= byte(x)
		c[at+1] ^= byte(x >> 8)
		refuses(t, c, 7, api.ErrSum)
	}
}

// Rule 4: what is handed in is not changed and not kept, what is handed out is new memory.
func TestMemoryOfSeal(t *testing.T) {
	room := []byte("abcdef")
	b := seal(t, 2, 7, 9, room[:3])
	opens(t, b, 2, 7, 9, []byte("abc"))
	room[0] = 'X'
	opens(t, b, 2, 7, 9, []byte("abc"))
	spoil(b)
	if string(room) != "Xbcdef" {
		t.Errorf("%q", room)
	}
	opens(t, seal(t, 2, 7, 9, room[:3]), 2, 7, 9, []byte("Xbc"))
	empty := []byte("abc")
	spoil(seal(t, 2, 7, 9, empty[:0]))
	if string(empty) != "abc" {
		t.Errorf("%q", empty)
	}
}

func TestMemoryOfOpen(t *testing.T) {
	for _, n := range []int{0, 1, 3, 32, page.Room} {
		in := bytes.Repeat([]byte("q"), n)
		b := append(seal(t, 2, 7, 9, in), "behind"...)
		was := bytes.Clone(b)
		_, _, one, e := page.Open(b[:api.Size], 7)
		_, _, other, f := page.Open(b[:api.Size], 7)
		if e != api.OK || f != api.OK {
			t.Fatal(int(e), int(f))
		}
		spoil(one)
		if !bytes.Equal(b, was) || !bytes.Equal(other, in) {
			t.Error(n, "shared")
		}
		spoil(b)
		if !bytes.Equal(other, in) {
			t.Error(n, "kept")
		}
	}
}

// spoil writes over bytes, their spare room too.
func spoil(b []byte) {
	b = b[:cap(b)]
	for i := range b {
		b[i] = '!'
	}
}
