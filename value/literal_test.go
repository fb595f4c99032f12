package value_test

import (
	"fmt"
	"math"
	"math/big"
	"regexp"
	"slices"
	"strconv"
	"strings"
	"testing"

	"cobweb/api"
	"cobweb/value"
)

// P3.4: Print

func TestPrint(t *testing.T) {
	i, r, s, b := atomInt, atomReal, atomText, atomBytes
	for _, c := range []struct {
		v    api.Value
		want string
	}{
		{one(null), "null"}, {one(yes), "true"}, {one(no), "false"},
		{one(i(0)), "0"}, {one(i(2)), "2"}, {one(i(-1)), "-1"}, {one(i(10)), "10"}, {one(i(-100)), "-100"}, {one(i(maxInt)), "9223372036854775807"}, {one(i(minInt)), "-9223372036854775808"},
		{one(r(2)), "0f4000000000000000"}, {one(r(0)), "0f0000000000000000"}, {one(r(-1)), "0fbff0000000000000"}, {one(r(nan())), "0f7ff8000000000000"}, {one(r(-inf)), "0ffff0000000000000"}, {one(r(tiny)), "0f0000000000000001"},
		{one(s("")), `""`}, {one(s("a")), `"a"`}, {one(s(" !#$'[]~")), `" !#$'[]~"`}, {one(s(`"`)), `"\""`}, {one(s(`\`)), `"\\"`}, {one(s(`\x41`)), `"\\x41"`},
		{one(s("\x00\x1f\x20\x7e\x7f\x80\xff")), `"\x00\x1f ~\x7f\x80\xff"`}, {one(s("\n\té")), `"\x0a\x09\xc3\xa9"`},
		{one(b("")), `x""`}, {one(b("a\"\\")), `x"a\"\\"`}, {one(b("\x00\xab")), `x"\x00\xab"`},
		{list(), "[]"}, {list(null), "[null]"}, {list(i(-1), b("\x00\"")), `[-1, x"\x00\""]`}, {list(yes, no, r(1), s(", ")), `[true, false, 0f3ff0000000000000, ", "]`},
		{list(slices.Repeat([]api.Atom{i(1)}, 16)...), "[1" + strings.Repeat(", 1", 15) + "]"},
		{one(s(strings.Repeat("\xff", 256))), `"` + strings.Repeat(`\xff`, 256) + `"`},
	} {
		if got := value.Print(c.v); got != c.want {
			t.Errorf("Print(%s) = %s, not %s", describe(c.v), got, c.want)
		}
	}
}

func TestPrintEachByte(t *testing.T) {
	for n := range 256 {
		c := byte(n)
		want := string([]byte{c})
		switch {
		case c < 32 || c > 126:
			want = fmt.Sprintf(`\x%02x`, c)
		case c == '"' || c == '\\':
			want = `\` + want
		}
		for _, around := range []string{"", "a", `\`} {
			s := around + string([]byte{c}) + around
			esc := strings.ReplaceAll(around, `\`, `\\`)
			if got := value.Print(one(atomText(s))); got != `"`+esc+want+esc+`"` {
				t.Errorf("Print of the text %q = %s", s, got)
			}
			if got := value.Print(one(atomBytes(s))); got != `x"`+esc+want+esc+`"` {
				t.Errorf("Print of the bytes %q = %s", s, got)
			}
		}
	}
}

func TestPrintNotValid(t *testing.T) {
	for _, v := range wrong() {
		if got := value.Print(v); got != "" {
			t.Errorf("Print(%s) = %s", describe(v), got)
		}
	}
}

// P3.4: Read

// read holds what Read tells against what it should.
func read(t *testing.T, s string, want api.Value, used int, e api.Errno) {
	t.Helper()
	v, n, got := value.Read(s)
	if !sameValue(v, want) || n != used || got != e {
		t.Errorf("Read(%.60q) = %s, %d, %d, not %s, %d, %d", s, describe(v), n, int(got), describe(want), used, int(e))
	}
}

func TestRead(t *testing.T) {
	i, r, s, b := atomInt, atomReal, atomText, atomBytes
	for _, c := range []struct {
		s    string
		want api.Value
		used int
	}{
		{"null", one(null), 4}, {"nullx", one(null), 4}, {"null null", one(null), 4}, {"true", one(yes), 4}, {"true1", one(yes), 4}, {"false", one(no), 5}, {"falsetrue", one(no), 5},
		{"0", one(i(0)), 1}, {"0 1", one(i(0)), 1}, {"0x10", one(i(0)), 1}, {"0.5", one(i(0)), 1}, {"0F", one(i(0)), 1}, {"0-1", one(i(0)), 1}, {"12abc", one(i(12)), 2}, {"10f0000000000000000", one(i(10)), 2}, {"1_000", one(i(1)), 1}, {"1e3", one(i(1)), 1}, {"-1", one(i(-1)), 2}, {"-10-", one(i(-10)), 3}, {"5]", one(i(5)), 1},
		{"9223372036854775807", one(i(maxInt)), 19}, {"-9223372036854775808", one(i(minInt)), 20}, {"9223372036854775807f", one(i(maxInt)), 19},
		{"0f4000000000000000", one(r(2)), 18}, {"0f4000000000000000 ", one(r(2)), 18}, {"0f40000000000000005", one(r(2)), 18}, {"0f4000000000000000f", one(r(2)), 18}, {"0f7ff8000000000000", one(r(nan())), 18}, {"0ffff0000000000000", one(r(-inf)), 18}, {"0f0000000000000000", one(r(0)), 18},
		{`""`, one(s("")), 2}, {`"""`, one(s("")), 2}, {`"a"b"`, one(s("a")), 3}, {`"\""`, one(s(`"`)), 4}, {`"\\"`, one(s(`\`)), 4}, {`"\\\""`, one(s(`\"`)), 6}, {`"\\x41"`, one(s(`\x41`)), 7}, {`"\x00\x1f\x7f\xff ~"`, one(s("\x00\x1f\x7f\xff ~")), 20},
		{`x""`, one(b("")), 3}, {`x"x"x`, one(b("x")), 4}, {`x"\x80\""`, one(b("\x80\"")), 9},
		{"[]", list(), 2}, {"[]]", list(), 2}, {"[null]", list(null), 6}, {"[1, 2]", list(i(1), i(2)), 6}, {`[true, "]", x", ", 0f3ff0000000000000]]`, list(yes, s("]"), b(", "), r(1)), 38},
	} {
		read(t, c.s, c.want, c.used, api.OK)
	}
}

func TestReadNoForm(t *testing.T) {
	for _, s := range []string{
		"", " ", " 1", "nul", "Null", "NULL", "tru", "True", "fals", "fale", "n", "t", "f", "x", "x1", "X\"\"", "'a'", "a", "nan", "inf",
		"-", "--1", "-0", "-01", "-00", "+1", "00", "01", "007", "- 1", "-a", ".5", "-.5", "9223372036854775808", "-9223372036854775809", "18446744073709551616", "99999999999999999999", strings.Repeat("9", 1000), strings.Repeat("0", 1000), "-" + strings.Repeat("1", 21), "-0f4000000000000000", "00f4000000000000000", "١",
		"0f", "0f4", "0f400000000000000", "0f400000000000000 ", "0f400000000000000g", "0f400000000000000F", "0fF000000000000000", "0f8000000000000000", "0f7ff8000000000001", "0ffff8000000000000", "0f7ff0000000000001", "0f-400000000000000", "0ff", "0f 4000000000000000", "0f0x00000000000000",
		`"`, `"a`, `"\`, `"\"`, `"\x`, `"\x4`, `"\x41"`, `"\x20"`, `"\x7e"`, `"\x22"`, `"\x5c"`, `"\x1"`, `"\x1g"`, `"\xg1"`, `"\xfF"`, `"\xFf"`, `"\x1F"`, `"\X1f"`, `"\n"`, `"\t"`, `"\a"`, `"\0"`, `"\ "`, `"\'"`, "\"\n\"", "\"\x00\"", "\"\x1f\"", "\"\x7f\"", "\"\x80\"", "\"\xff\"", "\"é\"", `"\` + "\x00\"", `"\` + "\xff\"", `"\x-1"`, `"\x+1"`, `"\x 1"`, `"\x0`, `"\x00`,
		`x`, `x"`, `x"\x41"`, `x "a"`, `x"a`, `xx""`,
		"[", "[ ]", "[1", "[1,", "[1, ", "[1,2]", "[1 , 2]", "[1,  2]", "[1, ]", "[, 1]", "[,]", "[1 ]", "[ 1]", "[[]]", "[[1]]", "[1, []]", "[1; 2]", "[01]", "[0f]", "[0f40000000000000005]", "[nullx]", "[1, 2", `["a]`, "[-0, 1]", "[1, 2 ]", "[1,\t2]", "[1]"[:2], "]", ", ", "[9223372036854775808]",
		"[1" + strings.Repeat(", 1", 15), "[1" + strings.Repeat(", 1", 15) + ",", "[1" + strings.Repeat(", 1", 15) + ",2]", "[1" + strings.Repeat(", 1", 15) + ",]", "[1" + strings.Repeat(", 1", 15) + " ]",
	} {
		read(t, s, api.Value{}, 0, api.ErrForm)
	}
}

func TestReadBig(t *testing.T) {
	most, more := strings.Repeat("a", 256), strings.Repeat("a", 257)
	codes := strings.Repeat(`\xff`, 256)
	ones := "[1" + strings.Repeat(", 1", 15)
	for _, s := range []string{
		`"` + more + `"`, `x"` + more + `"`, `"` + strings.Repeat("a", 100000) + `"`, `"` + codes + `a"`, `"` + codes + `\xff"`, `"` + most + `\""`, `"` + most + `\\"`, `"` + most + `\x00"`, `x"` + codes + ` "`,
		`"` + more, `"` + more + "\n", `"` + more + `\`, `x"` + more + `\x41`, // the byte that is too many comes ahead of what is no form
		ones + ", 1]", ones + ", ", ones + ", ]", ones + ", x", ones + ", [", ones + `, "` + more + `"]`, ones + strings.Repeat(", 1", 1000) + "]", "[null" + strings.Repeat(", null", 16) + "]",
		`["` + more + `"]`, `[1, x"` + more + `", nul]`, `["` + more,
	} {
		read(t, s, api.Value{}, 0, api.ErrBig)
	}
	for _, s := range []string{ // what is no form comes ahead of what is too great
		`"` + most, `"` + most + "\n" + more + `"`, `"` + most + `\`, `"` + most + `\x41"`, `"` + most + `\xf`, `x"` + most + "\xff\"",
		`[nul, "` + more + `"]`, `[1,"` + more + `"]`, "[x" + strings.Repeat(", 1", 20) + "]", ones[:len(ones)-1] + "01, 1]", ones + ",1, 1]", `["` + most + `", ` + more,
	} {
		read(t, s, api.Value{}, 0, api.ErrForm)
	}
	read(t, `"`+most+`"`+more, one(atomText(most)), 258, api.OK)
	read(t, `x"`+codes+`"`, one(atomBytes(strings.Repeat("\xff", 256))), 3+4*256, api.OK)
	read(t, ones+"], ", list(slices.Repeat([]api.Atom{atomInt(1)}, 16)...), len(ones)+1, api.OK)
}

var (
	atomForm = `null|true|false|0f[0-9a-f]{16}|-?[0-9]+|x?"(?:[ !#-\[\]-~]|\\["\\]|\\x(?:[01][0-9a-f]|7f|[89a-f][0-9a-f]))*"`
	oneForm  = regexp.MustCompile(`^(?:` + atomForm + `)`)
	listForm = regexp.MustCompile(`^\[(?:(?:` + atomForm + `)(?:, (?:` + atomForm + `))*)?\]`)
	codeForm = regexp.MustCompile(`\\(?:x(..)|(.))`)
)

// slowAtom tells the atom of a literal that has an atom's form; false: it is none's.
func slowAtom(s string) (api.Atom, bool) {
	switch s[0] {
	case 'n', 't', 'f':
		return map[string]api.Atom{"null": null, "true": yes, "false": no}[s], true
	case 'x':
		a, _ := slowAtom(s[1:])
		a.Kind = 5
		return a, true
	case '"':
		return atomText(codeForm.ReplaceAllStringFunc(s[1:len(s)-1], func(c string) string {
			if len(c) == 2 {
				return c[1:]
			}
			u, _ := strconv.ParseUint(c[2:], 16, 8)
			return string([]byte{byte(u)})
		})), true
	}
	if strings.HasPrefix(s, "0f") {
		u, _ := strconv.ParseUint(s[2:], 16, 64)
		f := bits(u)
		return atomReal(f), (f == f || u == math.Float64bits(nan())) && (f != 0 || u == 0)
	}
	n, _ := new(big.Int).SetString(s, 10)
	return atomInt(int(n.Int64())), n.IsInt64() && n.String() == s
}

// slowRead reads the chapter word by word, of texts too short for ErrBig.
func slowRead(s string) (api.Value, int, api.Errno) {
	if lit := listForm.FindString(s); lit != "" {
		var l []api.Atom
		for rest := strings.TrimPrefix(lit[1:len(lit)-1], ", "); rest != ""; {
			of := oneForm.FindString(rest)
			a, ok := slowAtom(of)
			if !ok {
				return api.Value{}, 0, api.ErrForm
			}
			l = append(l, a)
			rest = strings.TrimPrefix(rest[len(of):], ", ")
		}
		return list(l...), len(lit), api.OK
	}
	lit := oneForm.FindString(s)
	if lit == "" || strings.HasPrefix(s, "0f") && len(lit) != 18 {
		return api.Value{}, 0, api.ErrForm
	}
	a, ok := slowAtom(lit)
	if !ok {
		return api.Value{}, 0, api.ErrForm
	}
	return one(a), len(lit), api.OK
}

// words tells all texts of at most so many of some parts.
func words(parts []string, most int) []string {
	out := []string{""}
	for from, n := 0, 0; n < most; n++ {
		to := len(out)
		for _, w := range out[from:to] {
			for _, p := range parts {
				out = append(out, w+p)
			}
		}
		from = to
	}
	return out
}

// likeSlow holds Read against slowRead, and what it tells against Print.
func likeSlow(t *testing.T, s string) {
	t.Helper()
	want, used, e := slowRead(s)
	read(t, s, want, used, e)
	if v, n, e := value.Read(s); e == api.OK && value.Print(v) != s[:n] {
		t.Errorf("what is read of %.60q is printed as %s", s, value.Print(v))
	}
}

func TestReadShort(t *testing.T) {
	for _, s := range words([]string{"0", "1", "9", "-", `"`, `\`, "x", "f", "[", "]", ",", " "}, 5) {
		likeSlow(t, s)
	}
	for _, s := range words([]string{"0f3ff0000000000000", "0f", "null", "true", "false", "12", "-7", `"a"`, `x"\x00"`, `\x`, "8f", `"`, "[", "]", ", "}, 4) {
		likeSlow(t, s)
	}
	for c := range 256 {
		for d := range 256 {
			likeSlow(t, string([]byte{'"', '\\', byte(c), byte(d), '"'}))
			likeSlow(t, string([]byte{'"', '\\', 'x', byte(c), byte(d), '"'}))
			likeSlow(t, string([]byte{byte(c), byte(d)}))
		}
	}
}

func TestReadChanged(t *testing.T) {
	for _, v := range values() {
		s := value.Print(v)
		if len(s) > 100 {
			continue
		}
		for i := range len(s) {
			for _, c := range []string{"", "0", "8", "f", "F", "x", `"`, `\`, " ", ",", "[", "]", "-", "\x00", "\xff"} {
				likeSlow(t, s[:i]+c+s[i+1:])
				likeSlow(t, s[:i]+c+s[i:])
			}
			likeSlow(t, s[:i])
		}
	}
}

// P3.5: literals

func TestPrintedIsRead(t *testing.T) {
	literals := map[string]api.Value{}
	for _, v := range values() {
		s := value.Print(v)
		if was, ok := literals[s]; ok {
			t.Errorf("%s is of %s and of %s", s, describe(was), describe(v))
		}
		literals[s] = v
		for _, behind := range []string{"", " ", ",", ", 1", "]", `"`, "a", "\x00", "\xff"} {
			read(t, s+behind, v, len(s), api.OK)
		}
	}
	for _, a := range manyNumbers() {
		s := value.Print(one(a))
		read(t, s, one(a), len(s), api.OK)
	}
}
