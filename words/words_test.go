package words_test

import (
	"bytes"
	"encoding/hex"
	"go/ast"
	"go/parser"
	"go/token"
	"math"
	"slices"
	"strconv"
	"strings"
	"testing"

	"tholepin/api"
	"tholepin/words"
)

// texts are all texts of at most n of the bytes of an alphabet.
func texts(alphabet string, n int) []string {
	l := []string{""}
	for i := 0; i < len(l) && len(l[i]) < n; i++ {
		for k := range len(alphabet) {
			l = append(l, l[i]+alphabet[k:k+1])
		}
	}
	return l
}

// pairs are all texts of one byte and of two.
func pairs() []string {
	var all []byte
	for c := range 256 {
		all = append(all, byte(c))
	}
	return texts(string(all), 2)[1:]
}

// numbers are small ones, and those around each power of two and of ten.
func numbers() []uint64 {
	var l []uint64
	for x := range uint64(1200) {
		l = append(l, x)
	}
	for k := range 64 {
		p := uint64(1) << k
		l = append(l, p-1, p, p+1)
	}
	for p := uint64(1); p < 1e19; p *= 10 {
		l = append(l, p-1, p, p+1, 9*p)
	}
	return append(l, 1e19-1, 1e19, 1e19+1, math.MaxUint64-1, math.MaxUint64)
}

// isWord is the definition's words.
func isWord(s string) bool {
	for k := range len(s) {
		if s[k] < 33 || s[k] > 126 {
			return false
		}
	}
	return len(s) > 0
}

// split is the definition's words.
func split(s string) ([]string, bool) {
	if s == "" {
		return nil, true
	}
	l := strings.Split(s, " ")
	for _, word := range l {
		if !isWord(word) {
			return nil, false
		}
	}
	return l, true
}

// lines is the definition's words.
func lines(s string) ([]string, int, api.Errno) {
	l := strings.Split(s, "\n")
	for i, line := range l {
		last := i == len(l)-1
		if _, ok := split(line); !ok || last && line != "" {
			return nil, i + 1, api.ErrForm
		}
	}
	return l[:len(l)-1], 0, api.OK
}

// P10.1, P10.2: the examples of the chapter.
func TestExamples(t *testing.T) {
	if l, at, code := words.Lines("a b\nc\nd"); l != nil || at != 3 || code != api.ErrForm {
		t.Error(l, at, code)
	}
	if s := words.Hex([]byte{0, 171}); s != "00ab" {
		t.Error(s)
	}
	if s := words.Hex(nil); s != "-" {
		t.Error(s)
	}
	if s := words.List([]uint64{1, 2}); s != "1,2" {
		t.Error(s)
	}
	if b, ok := words.Unhex("0AB"); b != nil || ok {
		t.Error(b, ok)
	}
	if l, ok := words.ReadList("1,,2"); l != nil || ok {
		t.Error(l, ok)
	}
}

// P10.1: Split gives the words of a line, and nothing of another text.
func TestSplit(t *testing.T) {
	check := func(s string) bool {
		l, ok := words.Split(s)
		want, right := split(s)
		if !slices.Equal(l, want) || ok != right || !ok && l != nil {
			t.Errorf("Split(%q) = %q, %v", s, l, ok)
		}
		if ok && words.Join(l...) != s {
			t.Errorf("%q is split into %q, which are joined to %q", s, l, words.Join(l...))
		}
		return ok
	}
	accepted := 0
	for _, s := range append(texts("a~! \n", 6), pairs()...) {
		if check(s) {
			accepted++
		}
	}
	if accepted < 1000 {
		t.Error("too few to tell:", accepted)
	}
	for _, s := range []string{
		"a", "a b", "crc 3132", "! ~", " ", "  ", " a", "a ", "a  b", "a b ", "a\tb", "a\n", "\n", "a\r", "a\x00", "a\x7f",
		"é", "aé", "a é", "é a", "a\u00a0b", "a\u2003b", "\xff", "a \xff", "\xc3", "\ufffd", "a\x80", "a 日本", "ａ",
	} {
		check(s)
	}
	long := strings.Repeat("ab ", 1<<18)
	if l, ok := words.Split(long + "c"); len(l) != 1<<18+1 || !ok || l[0] != "ab" || l[1<<18] != "c" {
		t.Error(len(l), ok)
	}
	if l, ok := words.Split(long); l != nil || ok {
		t.Error(len(l), ok)
	}
}

// P10.1: Join puts one blank between any two, whatever they are.
func TestJoin(t *testing.T) {
	for _, c := range []struct {
		l    []string
		want string
	}{
		{nil, ""}, {[]string{""}, ""}, {[]string{"a"}, "a"}, {[]string{"a", "b"}, "a b"}, {[]string{"a", "", "b"}, "a  b"},
		{[]string{"", ""}, " "}, {[]string{"a b", " c"}, "a b  c"}, {[]string{"é", "\n", "x"}, "é \n x"},
	} {
		if s := words.Join(c.l...); s != c.want {
			t.Errorf("Join(%q) = %q", c.l, s)
		}
	}
	l := []string{"a", "b"}
	words.Join(l...)
	if !slices.Equal(l, []string{"a", "b"}) {
		t.Error(l)
	}
}

// P10.1: Lines gives all lines, or the number of the first one that is none.
func TestLines(t *testing.T) {
	check := func(s string) {
		l, at, code := words.Lines(s)
		want, place, fault := lines(s)
		if !slices.Equal(l, want) || at != place || code != fault || code != api.OK && l != nil {
			t.Errorf("Lines(%q) = %q, %d, %d", s, l, at, code)
		}
	}
	for _, s := range append(texts("a \n\x00", 7), pairs()...) {
		check(s)
	}
	for _, c := range []struct {
		s  string
		at int
	}{
		{"", 0}, {"\n", 0}, {"\n\n\n", 0}, {"a\n", 0}, {"a b\n\nc\n", 0},
		{"a", 1}, {" ", 1}, {"a \n", 1}, {"a\r\n", 1}, {"\nb", 2}, {"a\n \nb\n", 2}, {"a\n\n\n b", 4},
		{" a\nb", 1}, {"a\nb \nc", 2}, {"a\né\n", 2}, {"a\n\xff\n", 2}, {"a\nb\n\x7f", 3},
	} {
		check(c.s)
		l, at, code := words.Lines(c.s)
		if at != c.at || (code == api.OK) != (c.at == 0) || len(l) != 0 && at != 0 {
			t.Errorf("Lines(%q) = %q, %d, %d", c.s, l, at, code)
		}
	}
}

// P10.1: a text of MaxText bytes is the longest; of a longer one nothing else counts.
func TestLongTexts(t *testing.T) {
	many := strings.Repeat("\n", api.MaxText)
	if l, at, code := words.Lines(many); len(l) != api.MaxText || at != 0 || code != api.OK {
		t.Error(len(l), at, code)
	}
	one := strings.Repeat("a", api.MaxText-1) + "\n"
	if l, at, code := words.Lines(one); len(l) != 1 || l[0]+"\n" != one || at != 0 || code != api.OK {
		t.Error(len(l), at, code)
	}
	if l, at, code := words.Lines(many[1:] + " "); l != nil || at != api.MaxText || code != api.ErrForm {
		t.Error(len(l), at, code)
	}
	for _, s := range []string{many + "\n", one + "\n", one + "a", strings.Repeat(" ", api.MaxText+1), one + many} {
		if l, at, code := words.Lines(s); l != nil || at != 0 || code != api.ErrLong {
			t.Errorf("%d bytes: %d lines, %d, %d", len(s), len(l), at, code)
		}
	}
}

// P10.2: Num is the digits of a number, and ReadNum the number that has them.
func TestNum(t *testing.T) {
	for _, x := range numbers() {
		s := words.Num(x)
		if s != strconv.FormatUint(x, 10) {
			t.Errorf("Num(%d) = %q", x, s)
		}
		if y, ok := words.ReadNum(s); y != x || !ok {
			t.Errorf("ReadNum(%q) = %d, %v", s, y, ok)
		}
		for _, other := range []string{"0" + s, "+" + s, "-" + s, " " + s, s + " ", s + "\n", s + ",", s + ".", s + "e", s + "\x00"} {
			if y, ok := words.ReadNum(other); y != 0 || ok {
				t.Errorf("ReadNum(%q) = %d, %v", other, y, ok)
			}
		}
	}
}

// P10.2: ReadNum refuses all that is no number's word.
func TestReadNumRefuses(t *testing.T) {
	for _, s := range pairs() {
		want, err := strconv.ParseUint(s, 10, 64)
		right := err == nil && (len(s) == 1 || s[0] != '0')
		if x, ok := words.ReadNum(s); ok != right || ok && x != want || !ok && x != 0 {
			t.Errorf("ReadNum(%q) = %d, %v", s, x, ok)
		}
	}
	for _, s := range []string{
		"", "-", "-0", "00", "007", "1_000", "0x10", "1e3", "1.0", "12a", "a12", "１２", "٣", "é", "\xff1", "1\xff", "/:", "1 2",
		"18446744073709551616", "18446744073709551621", "20000000000000000000", "99999999999999999999", "100000000000000000000",
		"36893488147419103232", "0018446744073709551615", strings.Repeat("9", 1000), strings.Repeat("0", 1000), "1" + strings.Repeat("0", 64),
	} {
		if x, ok := words.ReadNum(s); x != 0 || ok {
			t.Errorf("ReadNum(%q) = %d, %v", s, x, ok)
		}
	}
}

// P10.2: ReadInt takes numbers up to its bound, and none if that is negative.
func TestReadInt(t *testing.T) {
	bounds := []int{math.MinInt, -2, -1, 0, 1, 9, 10, 1000, 1 << 20, 1 << 62, math.MaxInt - 1, math.MaxInt}
	for _, most := range bounds {
		for _, x := range numbers() {
			right := most >= 0 && x <= uint64(most)
			n, ok := words.ReadInt(words.Num(x), most)
			if ok != right || ok && n != int(x) || !ok && n != 0 {
				t.Errorf("ReadInt of %d, at most %d: %d, %v", x, most, n, ok)
			}
		}
		for _, s := range []string{"", "-", "-1", "-0", "+1", "01", "00", " 1", "1 ", "x", "1,2", "18446744073709551616"} {
			if n, ok := words.ReadInt(s, most); n != 0 || ok {
				t.Errorf("ReadInt(%q, %d) = %d, %v", s, most, n, ok)
			}
		}
	}
}

// P10.2: Hex has two small digits a byte, and Unhex reads them.
func TestHex(t *testing.T) {
	var all []byte
	for c := range 256 {
		all = append(all, byte(c))
	}
	for _, b := range [][]byte{{0}, {7}, {16}, {255}, {0, 0}, {18, 52, 86}, {171, 205, 239}, all, bytes.Repeat(all, 300)} {
		s := words.Hex(b)
		if s != hex.EncodeToString(b) {
			t.Errorf("Hex(%v) = %q", b, s)
		}
		if got, ok := words.Unhex(s); !bytes.Equal(got, b) || !ok {
			t.Errorf("Unhex(%q) = %v, %v", s, got, ok)
		}
		for _, other := range []string{s + "0", s[1:], "0" + s, s + "-", "-" + s, s + " 0", s + "-0", s + "\n", "0x" + s, strings.ToUpper(s) + "A0", s + "é"} {
			if got, ok := words.Unhex(other); got != nil || ok {
				t.Errorf("Unhex(%q) = %v, %v", other, got, ok)
			}
		}
	}
	if s := words.Hex([]byte{}); s != "-" {
		t.Error(s)
	}
}

// P10.2: Unhex refuses all that is no word of bytes.
func TestUnhexRefuses(t *testing.T) {
	accepted := 0
	for _, s := range pairs() {
		want, err := hex.DecodeString(s)
		right := err == nil && strings.ToLower(s) == s
		b, ok := words.Unhex(s)
		if s == "-" {
			want, right = nil, true
		}
		if ok != right || ok && !bytes.Equal(b, want) || !ok && b != nil {
			t.Errorf("Unhex(%q) = %v, %v", s, b, ok)
		}
		if ok && words.Hex(b) != s {
			t.Errorf("%q is read as %v, whose word is %q", s, b, words.Hex(b))
		}
		if ok {
			accepted++
		}
	}
	if accepted != 257 {
		t.Error(accepted)
	}
	for _, s := range []string{"", "0", "--", "-00", "00-", "0AB", "AB", "0aB0", "0g", "00 00", "00,00", "é", "00é", "aé0", "\xff\xff", "０0", "\ufffd0", "00\ufffd0"} {
		if b, ok := words.Unhex(s); b != nil || ok {
			t.Errorf("Unhex(%q) = %v, %v", s, b, ok)
		}
	}
}

// P10.2: List has commas between its numbers, and ReadList reads them.
func TestList(t *testing.T) {
	for _, c := range []struct {
		l    []uint64
		want string
	}{
		{nil, "-"}, {[]uint64{}, "-"}, {[]uint64{0}, "0"}, {[]uint64{0, 0}, "0,0"}, {[]uint64{3, 1, 2, 1}, "3,1,2,1"},
		{[]uint64{math.MaxUint64, 0, 10}, "18446744073709551615,0,10"},
	} {
		if s := words.List(c.l); s != c.want {
			t.Errorf("List(%v) = %q", c.l, s)
		}
		if l, ok := words.ReadList(c.want); !slices.Equal(l, c.l) || !ok {
			t.Errorf("ReadList(%q) = %v, %v", c.want, l, ok)
		}
	}
	all := numbers()
	for n := range all {
		s := words.List(all[:n+1])
		if strings.Count(s, ",") != n || strings.Contains(s, " ") {
			t.Fatalf("List of %d numbers is %q", n+1, s)
		}
		if l, ok := words.ReadList(s); !slices.Equal(l, all[:n+1]) || !ok {
			t.Fatalf("ReadList(%q) = %v, %v", s, l, ok)
		}
	}
}

// P10.2: ReadList refuses all that is no word of a list.
func TestReadListRefuses(t *testing.T) {
	for _, s := range []string{
		"", ",", ",,", "1,", ",1", "1,,2", "01", "1,02", "1,2,", "-,1", "1,-", "--", "-1", "1,-2", "1, 2", "1 ,2", " 1", "1;2", "1.2",
		"+1", "a", "1,a", "1,é", "1，2", "1,\xff", "18446744073709551616", "5,18446744073709551616", "18446744073709551616,5", strings.Repeat(",", 1<<20),
	} {
		if l, ok := words.ReadList(s); l != nil || ok {
			t.Errorf("ReadList(%.40q) = %v, %v", s, l, ok)
		}
	}
}

// P10.3: every word that is accepted is the word of its value.
func TestOneWord(t *testing.T) {
	accepted := map[string]int{}
	for _, s := range append(texts("-,01a", 6), pairs()...) {
		if x, ok := words.ReadNum(s); ok {
			accepted["num"]++
			if words.Num(x) != s {
				t.Errorf("%q is read as %d", s, x)
			}
		}
		if n, ok := words.ReadInt(s, 1000); ok {
			accepted["int"]++
			if words.Num(uint64(n)) != s || n > 1000 {
				t.Errorf("%q is read as %d", s, n)
			}
		}
		if b, ok := words.Unhex(s); ok {
			accepted["hex"]++
			if words.Hex(b) != s {
				t.Errorf("%q is read as %v", s, b)
			}
		}
		if l, ok := words.ReadList(s); ok {
			accepted["list"]++
			if words.List(l) != s {
				t.Errorf("%q is read as %v", s, l)
			}
		}
	}
	for _, name := range []string{"num", "int", "hex", "list"} {
		if accepted[name] < 20 {
			t.Error("too few to tell:", accepted)
		}
	}
}

// P10.3: words of values are words, and a line of them has the values back.
func TestWordsOfLines(t *testing.T) {
	for _, x := range numbers() {
		b, l := []byte(words.Num(x)), []uint64{x, 0, x / 3}
		line := words.Join("row", words.Num(x), words.Hex(b), words.Hex(nil), words.List(l), words.List(nil))
		got, at, code := words.Lines(line + "\n" + line + "\n")
		if !slices.Equal(got, []string{line, line}) || at != 0 || code != api.OK {
			t.Fatal(got, at, code)
		}
		s, ok := words.Split(got[1])
		if !ok || len(s) != 6 || s[0] != "row" {
			t.Fatal(s, ok)
		}
		y, ok1 := words.ReadNum(s[1])
		c, ok2 := words.Unhex(s[2])
		d, ok3 := words.Unhex(s[3])
		m, ok4 := words.ReadList(s[4])
		k, ok5 := words.ReadList(s[5])
		if y != x || !bytes.Equal(c, b) || len(d) != 0 || !slices.Equal(m, l) || len(k) != 0 || !(ok1 && ok2 && ok3 && ok4 && ok5) {
			t.Error(line, y, c, d, m, k)
		}
	}
}

// P10.1, P10.2: arguments are not changed or kept, and results are new memory.
func TestMemory(t *testing.T) {
	b, l := []byte{0, 171}, []uint64{1, 2}
	if words.Hex(b) != "00ab" || words.List(l) != "1,2" || !bytes.Equal(b, []byte{0, 171}) || !slices.Equal(l, []uint64{1, 2}) {
		t.Error(b, l)
	}
	first, _ := words.Split("a b")
	first[0] = "x"
	if again, _ := words.Split("a b"); !slices.Equal(again, []string{"a", "b"}) {
		t.Error(again)
	}
	read, _ := words.ReadList("1,2")
	read[0] = 9
	if again, _ := words.ReadList("1,2"); !slices.Equal(again, l) {
		t.Error(again)
	}
}

// visits tells whether a loop ranges over the text s, with something behind it or not.
func visits(loop *ast.RangeStmt) bool {
	x := loop.X
	if sum, ok := x.(*ast.BinaryExpr); ok {
		x = sum.X
	}
	text, ok := x.(*ast.Ident)
	return ok && text.Name == "s"
}

// Ways of layer 10: each function that visits a text ranges over it and has no other
// loop, and Join takes any number of texts.
func TestTextsAreRangedOver(t *testing.T) {
	file, err := parser.ParseFile(token.NewFileSet(), "words.go", nil, 0)
	if err != nil {
		t.Fatal(err)
	}
	loops := map[string]int{}
	for _, d := range file.Decls {
		f, ok := d.(*ast.FuncDecl)
		if !ok {
			continue
		}
		if _, variadic := f.Type.Params.List[0].Type.(*ast.Ellipsis); variadic != (f.Name.Name == "Join") {
			t.Error(f.Name.Name, "takes any number of texts:", variadic)
		}
		ast.Inspect(f, func(n ast.Node) bool {
			switch x := n.(type) {
			case *ast.RangeStmt:
				if visits(x) {
					loops[f.Name.Name]++
				}
			case *ast.ForStmt:
				t.Error(f.Name.Name, "has another loop")
			}
			return true
		})
	}
	for _, name := range []string{"Split", "Lines", "ReadNum", "Unhex", "ReadList"} {
		if loops[name] != 1 {
			t.Error(name, "ranges over its text", loops[name], "times")
		}
	}
}
