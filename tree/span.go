package tree

import "bytes"

// span is the keys from one on, and, if it ends, below another one.
type span struct {
	from, to []byte
	ends     bool
}

func (s span) has(key []byte) bool { return bytes.Compare(s.from, key) <= 0 && s.isAhead(key) }

// isAhead tells whether a key is below the end.
func (s span) isAhead(key []byte) bool { return !s.ends || bytes.Compare(key, s.to) < 0 }

// none and all tell whether no key, and whether each one, is in a span; meets whether one could be in both.
func (s span) none() bool            { return !s.isAhead(s.from) }
func (s span) all() bool             { return len(s.from) == 0 && !s.ends }
func (s span) meets(other span) bool { return s.isAhead(other.from) && other.isAhead(s.from) }
