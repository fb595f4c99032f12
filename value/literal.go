package value

import (
	"strconv"
	"strings"

	"cobweb/api"
	"cobweb/floats"
)

// What literals are made of.
const (
	nullWord   = "null"
	falseWord  = "false"
	trueWord   = "true"
	realMark   = "0f"
	realDigits = 16
	quoteMark  = `"`
	bytesMark  = `x"`
	listBegin  = "["
	listNext   = ", "
	listEnd    = "]"
	codeMark   = `\x`
	hexDigits  = "0123456789abcdef"
)

// Print tells a value as a literal; Read reads the literal that a text begins with.
func Print(v api.Value) string {
	switch {
	case !Valid(v):
		return ""
	case v.Kind != api.List:
		return printAtom(v.Atom)
	}
	atoms := make([]string, len(v.L))
	for i, a := range v.L {
		atoms[i] = printAtom(a)
	}
	return listBegin + strings.Join(atoms, listNext) + listEnd
}

func printAtom(a api.Atom) string {
	switch a.Kind {
	case api.Null:
		return nullWord
	case api.Bool:
		if a.N == 0 {
			return falseWord
		}
		return trueWord
	case api.Int:
		return strconv.Itoa(a.N)
	case api.Real:
		return realMark + floats.Hex(a.F)
	case api.Bytes:
		return bytesMark + escape(a.S) + quoteMark
	}
	return quoteMark + escape(a.S) + quoteMark
}

// escape tells what stands between the marks of a text.
func escape(s string) string {
	var out strings.Builder
	for i := range len(s) {
		switch c := s[i]; {
		case isCode(c):
			out.WriteString(codeMark)
			out.WriteByte(hexDigits[c>>4])
			out.WriteByte(hexDigits[c&0xf])
		case isMark(c):
			out.WriteByte('\\')
			out.WriteByte(c)
		default:
			out.WriteByte(c)
		}
	}
	return out.String()
}

// isCode tells whether a byte of a text is told by its digits, isMark whether with a \ ahead.
func isCode(c byte) bool { return c < 32 || c > 126 }
func isMark(c byte) bool { return c == '"' || c == '\\' }

func Read(s string) (v api.Value, used int, e api.Errno) {
	defer func() {
		if left := recover(); left != nil {
			v, used, e = api.Value{}, 0, left.(api.Errno)
		}
	}()
	r := reader{s}
	v = r.value()
	return v, len(s) - len(r.rest), api.OK
}

// reader reads what is left of a text; where no literal can stand any more, it panics with the error.
type reader struct{ rest string }

// take passes over what the rest begins with; false: with something else.
func (r *reader) take(s string) bool {
	rest, ok := strings.CutPrefix(r.rest, s)
	r.rest = rest
	return ok
}

// cut passes over so many bytes, or what there is, and tells them.
func (r *reader) cut(n int) string {
	n = min(n, len(r.rest))
	out := r.rest[:n]
	r.rest = r.rest[n:]
	return out
}

func (r *reader) value() api.Value {
	if r.take(listBegin) {
		return api.Value{Atom: api.Atom{Kind: api.List}, L: r.list()}
	}
	return api.Value{Atom: r.atom()}
}

// list reads a list's atoms, and its end.
func (r *reader) list() []api.Atom {
	if r.take(listEnd) {
		return nil
	}
	var l []api.Atom
	for {
		if len(l) == api.MaxList {
			panic(api.ErrBig)
		}
		l = append(l, r.atom())
		if r.take(listEnd) {
			return l
		}
		if !r.take(listNext) {
			panic(api.ErrForm)
		}
	}
}

func (r *reader) atom() api.Atom {
	switch {
	case r.take(nullWord):
		return api.Atom{Kind: api.Null}
	case r.take(falseWord):
		return api.Atom{Kind: api.Bool}
	case r.take(trueWord):
		return api.Atom{Kind: api.Bool, N: 1}
	case r.take(realMark): // ahead of the whole numbers, since 0 is one
		return api.Atom{Kind: api.Real, F: r.float()}
	case r.take(quoteMark):
		return api.Atom{Kind: api.Text, S: r.text()}
	case r.take(bytesMark):
		return api.Atom{Kind: api.Bytes, S: r.text()}
	}
	return api.Atom{Kind: api.Int, N: r.whole()}
}

// float reads the digits behind a Real's mark.
func (r *reader) float() float64 {
	f, e := floats.Parse(r.cut(realDigits))
	if e != api.OK {
		panic(e)
	}
	return f
}

// whole reads an Int: all the digits that stand there, so that 01 isn't read as 0.
func (r *reader) whole() int {
	digits := strings.TrimPrefix(r.rest, "-")
	behind := strings.TrimLeft(digits, "0123456789")
	s := r.cut(len(r.rest) - len(behind))
	n, err := strconv.Atoi(s)
	if err != nil || strconv.Itoa(n) != s {
		panic(api.ErrForm)
	}
	return n
}

// text reads what stands between the marks of a text, and the latter mark.
func (r *reader) text() string {
	var out []byte
	for !r.take(quoteMark) {
		c := r.char()
		if len(out) == api.MaxText {
			panic(api.ErrBig)
		}
		out = append(out, c)
	}
	return string(out)
}

// char reads what stands for one byte of a text.
func (r *reader) char() byte {
	if r.take(codeMark) {
		return r.code()
	}
	marked := r.take(`\`)
	s := r.cut(1)
	if s == "" || isCode(s[0]) || isMark(s[0]) != marked {
		panic(api.ErrForm)
	}
	return s[0]
}

// code reads the two digits of a byte that only they tell.
func (r *reader) code() byte {
	s := r.cut(2)
	if len(s) < 2 {
		panic(api.ErrForm)
	}
	high, low := strings.IndexByte(hexDigits, s[0]), strings.IndexByte(hexDigits, s[1])
	c := byte(high<<4 | low)
	if high < 0 || low < 0 || !isCode(c) {
		panic(api.ErrForm)
	}
	return c
}
