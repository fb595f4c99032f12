// Package order is layer 1: see shared/doc/01-order.md.
package order

import (
	"bytes"
	"slices"
	"strings"

	"cobweb/api"
)

const (
	intBytes = 8
	signBit  = 1 << 63 // turned, it lets the numbers below zero come first
)

// A zero byte is told by the byte behind it: one of the text, or the text's end.
// The end's byte is the lesser one, so a text is below those that it begins.
const (
	zero    = 0x00
	ofText  = 0xff
	textEnd = 0x01
)

// PutInt puts a number behind bytes, so that greater numbers have greater bytes; ReadInt reads it.
func PutInt(b []byte, n int) []byte {
	u := uint64(n) ^ signBit
	return append(apart(b),
		byte(u>>56), byte(u>>48), byte(u>>40), byte(u>>32),
		byte(u>>24), byte(u>>16), byte(u>>8), byte(u))
}

// ReadInt reads the number that bytes begin with, and tells how many bytes it has.
func ReadInt(b []byte) (n int, used int, e api.Errno) {
	if len(b) < intBytes {
		return 0, 0, api.ErrEnd
	}
	var u uint64
	for _, c := range b[:intBytes] {
		u = u<<8 | uint64(c)
	}
	return int(u ^ signBit), intBytes, api.OK
}

// PutText puts a text, so that greater texts have greater bytes, whatever stands behind; ReadText reads it.
func PutText(b []byte, s string) []byte {
	zeros := strings.Count(s, "\x00")
	out := slices.Grow(apart(b), len(s)+zeros+2)
	for i := range len(s) {
		out = append(out, s[i])
		if s[i] == zero {
			out = append(out, ofText)
		}
	}
	return append(out, zero, textEnd)
}

// ReadText reads the text that bytes begin with, and tells how many bytes it has, with its end.
func ReadText(b []byte) (s string, used int, e api.Errno) {
	ends := func(c byte) bool { return c == zero }
	var text []byte
	for {
		rest := b[used:]
		at := slices.IndexFunc(rest, ends)
		if at < 0 || at+1 == len(rest) {
			return "", 0, api.ErrEnd
		}
		text = append(text, rest[:at]...)
		used += at + 2
		switch rest[at+1] {
		case textEnd:
			return string(text), used, api.OK
		case ofText:
			text = append(text, zero)
		default:
			return "", 0, api.ErrForm
		}
	}
}

// Compare tells -1, 0 or 1: a is below, like, above b.
func Compare(a, b []byte) int { return bytes.Compare(a, b) }

// After tells the least bytes that are above all that begin so; false: there are none.
func After(prefix []byte) ([]byte, bool) {
	n := len(prefix)
	for n > 0 && prefix[n-1] == 0xff {
		n--
	}
	if n == 0 {
		return nil, false
	}
	out := append(prefix[:0:0], prefix[:n]...)
	out[n-1]++
	return out, true
}

// apart leaves bytes no spare room, so that what is put behind them goes to new memory.
func apart(b []byte) []byte { return b[:len(b):len(b)] }
