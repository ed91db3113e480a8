package fault_test

import (
	"math"
	"strconv"
	"strings"
	"testing"

	"tholepin/api"
	"tholepin/fault"
)

// table is the words as the chapter lists them, in the order of their codes.
const table = "ok, short, long, invalid, non-minimal, overflow, sum, kind, version, rest, token, bound, non-canonical, order, magic, too-large, none, arg, state, nil, form"

var zero = api.Fault{}

// places are positions of every size and sign.
var places = []int{0, 1, 7, 9, 10, 99, 1 << 20, math.MaxInt, -1, -3, -10, math.MinInt}

// noCodes are numbers that are no code.
var noCodes = []api.Errno{-1, -20, 21, 22, 255, 256, math.MaxInt, math.MinInt}

// allCodes is the codes, and numbers that are none.
func allCodes() []api.Errno {
	l := append([]api.Errno(nil), noCodes...)
	for code := api.OK; code <= api.ErrForm; code++ {
		l = append(l, code)
	}
	return l
}

// P1.1: At keeps the code and the position, and OK has no position.
func TestAt(t *testing.T) {
	for _, code := range allCodes() {
		for _, at := range places {
			want := api.Fault{Code: code, At: at}
			if code == api.OK {
				want = zero
			}
			if f := fault.At(code, at); f != want {
				t.Errorf("At(%d, %d) = %v", code, at, f)
			}
		}
	}
}

// P1.1: only the code OK is good, whatever the position.
func TestGood(t *testing.T) {
	for _, code := range allCodes() {
		for _, at := range places {
			if fault.Good(api.Fault{Code: code, At: at}) != (code == api.OK) {
				t.Errorf("Good of %d at %d", code, at)
			}
		}
	}
}

// P1.1: Shift moves the position by as much as it is told, and a good fault becomes the zero one.
func TestShift(t *testing.T) {
	if f := fault.Shift(fault.At(api.ErrSum, 7), -2); f != (api.Fault{Code: api.ErrSum, At: 5}) {
		t.Error(f)
	}
	for _, c := range [][3]int{{7, 0, 7}, {0, 5, 5}, {5, -9, -4}, {-3, 3, 0}, {-3, -4, -7}, {math.MaxInt, math.MinInt, -1}} {
		for _, code := range []api.Errno{api.ErrShort, api.ErrForm, -1, 21} {
			if f := fault.Shift(api.Fault{Code: code, At: c[0]}, c[1]); f != (api.Fault{Code: code, At: c[2]}) {
				t.Errorf("Shift of %d at %d by %d = %v", code, c[0], c[1], f)
			}
		}
		if f := fault.Shift(api.Fault{At: c[0]}, c[1]); f != zero {
			t.Errorf("Shift of a good fault at %d by %d = %v", c[0], c[1], f)
		}
	}
}

// P1.1: First passes over good faults with any position, and takes the first other one, not the least.
func TestFirst(t *testing.T) {
	good, kind, sum, odd := api.Fault{At: 4}, fault.At(api.ErrKind, 3), fault.At(api.ErrSum, 1), fault.At(21, -2)
	for i, c := range []struct {
		l    []api.Fault
		want api.Fault
	}{
		{nil, zero},
		{[]api.Fault{{}}, zero},
		{[]api.Fault{good}, zero},
		{[]api.Fault{good, {}, good}, zero},
		{[]api.Fault{sum}, sum},
		{[]api.Fault{{}, sum}, sum},
		{[]api.Fault{good, kind, sum}, kind},
		{[]api.Fault{sum, kind}, sum},
		{[]api.Fault{kind, good}, kind},
		{[]api.Fault{good, odd, kind}, odd},
	} {
		if f := fault.First(c.l...); f != c.want {
			t.Errorf("case %d: %v", i, f)
		}
	}
}

// P1.2: each code has its word, and no other number has one.
func TestWord(t *testing.T) {
	l := strings.Split(table, ", ")
	if len(l) != 21 {
		t.Fatal(len(l))
	}
	for i, w := range l {
		if s := fault.Word(api.Errno(i)); s != w {
			t.Errorf("Word(%d) = %q, not %q", i, s, w)
		}
	}
	for _, code := range noCodes {
		if s := fault.Word(code); s != "" {
			t.Errorf("Word(%d) = %q", code, s)
		}
	}
}

// P1.2: each word has its code, and no other text has one.
func TestFind(t *testing.T) {
	for i, w := range strings.Split(table, ", ") {
		if code, ok := fault.Find(w); !ok || int(code) != i {
			t.Errorf("Find(%q) = %d, %v", w, code, ok)
		}
		for _, s := range []string{w + " ", " " + w, w + "s", w[1:], strings.ToUpper(w), w + "\x00", strconv.Itoa(i)} {
			if code, ok := fault.Find(s); ok || code != api.OK {
				t.Errorf("Find(%q) = %d, %v", s, code, ok)
			}
		}
	}
	for _, s := range []string{"", " ", "toolarge", "too large", "non", "sum 7"} {
		if code, ok := fault.Find(s); ok || code != api.OK {
			t.Errorf("Find(%q) = %d, %v", s, code, ok)
		}
	}
}

// P1.2: Text is ok, nothing, or the word, a blank and the position.
func TestText(t *testing.T) {
	for _, c := range []struct {
		f    api.Fault
		want string
	}{
		{zero, "ok"},
		{api.Fault{At: 9}, "ok"},
		{api.Fault{At: -9}, "ok"},
		{fault.At(api.ErrSum, 7), "sum 7"},
		{fault.At(api.ErrShort, 0), "short 0"},
		{fault.At(api.ErrTooLarge, -3), "too-large -3"},
		{fault.At(api.ErrForm, 100), "form 100"},
		{fault.At(api.ErrNil, math.MaxInt64), "nil 9223372036854775807"},
		{fault.At(api.ErrNil, math.MinInt64), "nil -9223372036854775808"},
		{fault.At(21, 7), ""},
		{fault.At(-1, 0), ""},
	} {
		if s := fault.Text(c.f); s != c.want {
			t.Errorf("Text(%v) = %q, not %q", c.f, s, c.want)
		}
	}
}

// P1.2: Parse knows each form that Text gives.
func TestParse(t *testing.T) {
	for s, want := range map[string]api.Fault{
		"ok":                        zero,
		"sum 7":                     {Code: api.ErrSum, At: 7},
		"sum 0":                     {Code: api.ErrSum},
		"too-large -3":              {Code: api.ErrTooLarge, At: -3},
		"non-canonical 10":          {Code: api.ErrNonCanonical, At: 10},
		"form 9223372036854775807":  {Code: api.ErrForm, At: math.MaxInt64},
		"form -9223372036854775808": {Code: api.ErrForm, At: math.MinInt64},
	} {
		if f, ok := fault.Parse(s); !ok || f != want {
			t.Errorf("Parse(%q) = %v, %v", s, f, ok)
		}
	}
}

// P1.2: Parse refuses every other text, with the zero fault.
func TestParseRefuses(t *testing.T) {
	for _, s := range []string{
		"", " ", "7", " 7", "sum", "sum ", "sum  7", " sum 7", "sum 7 ", "sum 7\n", "sum\t7", "sum7", "Sum 7", "sums 7",
		"sum 07", "sum 00", "sum -07", "sum -0", "sum +7", "sum +0", "sum --7", "sum -", "sum - 7", "sum 7 7", "sum 7 sum",
		"sum 1_0", "sum 0x7", "sum 7.0", "sum 7e0", "sum ٧", "sum seven", "sum 9223372036854775808",
		"sum -9223372036854775809", "sum 99999999999999999999999999", "ok 0", "ok 7", "ok ", " ok", "OK", "okok", "none at 7",
		"21 7", "wrong 7", "\xff 7", "sum \xff", "sum 7\x00",
	} {
		if f, ok := fault.Parse(s); ok || f != zero {
			t.Errorf("Parse(%q) = %v, %v", s, f, ok)
		}
	}
}

// P1.3: Parse inverts Text, and what has no text is not parsed.
func TestParseInvertsText(t *testing.T) {
	for _, code := range allCodes() {
		for _, at := range places {
			f := api.Fault{Code: code, At: at}
			want, word := fault.At(code, at), fault.Word(code) != ""
			if !word {
				want = zero
			}
			if g, ok := fault.Parse(fault.Text(f)); ok != word || g != want {
				t.Errorf("%v: %v, %v", f, g, ok)
			}
		}
	}
}

// P1.3: each text that Parse accepts is the Text of its result, and so is none that differs from it by a byte.
func TestParseAcceptsTextsOnly(t *testing.T) {
	const letters = "-+ 0179kmosu_"
	accepted := 0
	check := func(s string) {
		f, ok := fault.Parse(s)
		if ok && fault.Text(f) != s || !ok && f != zero {
			t.Errorf("Parse(%q) = %v, %v", s, f, ok)
		}
		if ok {
			accepted++
		}
	}
	for _, s := range []string{"ok", "sum 7", "sum -10", "none 0", "non-minimal 100"} {
		check(s)
		for i := range len(s) + 1 {
			for _, c := range letters {
				check(s[:i] + string(c) + s[i:])
				check(s[:i] + string(c) + s[min(i+1, len(s)):])
			}
			check(s[:i] + s[min(i+1, len(s)):])
		}
	}
	if accepted < 50 {
		t.Error("too few were accepted to tell:", accepted)
	}
}

// P1.3: shifting forth and back restores a fault whose positions fit into an int.
func TestShiftBack(t *testing.T) {
	for _, code := range allCodes() {
		for _, at := range []int{0, 1, 7, -3, 1 << 20, math.MaxInt - 12, math.MinInt + 12} {
			for _, by := range []int{0, 1, -1, 12, -12} {
				f := fault.At(code, at)
				if g := fault.Shift(fault.Shift(f, by), -by); g != f {
					t.Errorf("%v by %d: %v", f, by, g)
				}
			}
		}
	}
}
