package forest_test

import "strings"

// What the chapter says, once more, as slowly as it is said there.

const (
	ok      = 0
	errArg  = 2
	errBig  = 3
	errForm = 11
	maxKey  = 72
)

const letters = "abcdefghijklmnopqrstuvwxyzABCDEFGHIJKLMNOPQRSTUVWXYZ"

func slowName(s string) bool {
	if len(s) < 1 || len(s) > 16 || strings.IndexByte("0123456789", s[0]) >= 0 {
		return false
	}
	for i := range len(s) {
		if strings.IndexByte(letters+"_0123456789", s[i]) < 0 {
			return false
		}
	}
	return true
}

func slowMost(name string) int {
	if !slowName(name) {
		return 0
	}
	return maxKey - 1 - len(name)
}

func slowKey(name, key string) (string, int) {
	if !slowName(name) {
		return "", errArg
	}
	if len(key) > slowMost(name) {
		return "", errBig
	}
	return string([]byte{byte(len(name))}) + name + key, ok
}

// slowSplit asks each part of the bytes as a name, and what is behind it as a key.
func slowSplit(b string) (name, key string, e int) {
	for i := range len(b) + 1 {
		for j := i; j <= len(b); j++ {
			if k, e := slowKey(b[i:j], b[j:]); e == ok && k == b {
				return b[i:j], b[j:], ok
			}
		}
	}
	return "", "", errForm
}

// slowSpan tells above all that begin so by the last byte, which is a letter, a digit or _.
func slowSpan(name, from, to string) (a, b string, e int) {
	if a, e = slowKey(name, from); e != ok {
		return "", "", e
	}
	if b, e = slowKey(name, to); e != ok {
		return "", "", e
	}
	if to == "" {
		b = b[:len(b)-1] + string([]byte{b[len(b)-1] + 1})
	}
	return a, b, ok
}
