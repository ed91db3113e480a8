package kind_test

import (
	"go/ast"
	"go/parser"
	"go/token"
	"math"
	"path/filepath"
	"slices"
	"strings"
	"testing"

	"tholepin/api"
	"tholepin/kind"
)

// row is a row of the chapter's table.
type row struct {
	kind   int
	word   string
	fields []int
	answer int // 0: none
}

// chapter is the table as the chapter has it.
var chapter = []row{
	{1, "read", []int{kind.Pos}, 9},
	{2, "write", []int{kind.Pos, kind.Data}, 10},
	{3, "seal", nil, 11},
	{4, "trim", []int{kind.Pos}, 10},
	{5, "fill", []int{kind.Pos}, 10},
	{6, "take", []int{kind.Count, kind.Streams}, 12},
	{7, "get", nil, 13},
	{8, "put", []int{kind.Proj}, 10},
	{9, "value", []int{kind.State, kind.Data}, 0},
	{10, "done", nil, 0},
	{11, "sealed", []int{kind.Seal}, 0},
	{12, "taken", []int{kind.Pos, kind.Links}, 0},
	{13, "proj", []int{kind.Proj}, 0},
	{14, "failed", []int{kind.State}, 0},
}

// noKinds are numbers that are no kind.
var noKinds = []int{0, -1, -9, -14, 15, 16, 128, 255, 256 + 1, 1<<32 + 1, math.MaxInt, math.MinInt}

// numbers are the kinds, and numbers that are none.
func numbers() []int {
	l := slices.Clone(noKinds)
	for _, x := range chapter {
		l = append(l, x.kind)
	}
	return l
}

// of is a number's row, or the zero one.
func of(k int) row {
	for _, x := range chapter {
		if x.kind == k {
			return x
		}
	}
	return row{}
}

// P27.1: the examples of the chapter.
func TestExamples(t *testing.T) {
	if !kind.Answers(api.Read, api.Value) || kind.Answers(api.Read, api.Done) || !kind.Has(api.Taken, kind.Links) {
		t.Error(kind.Answers(api.Read, api.Value), kind.Answers(api.Read, api.Done), kind.Has(api.Taken, kind.Links))
	}
	if kind.Request(api.Value) || kind.Word(api.IsProj) != "proj" {
		t.Error(kind.Request(api.Value), kind.Word(api.IsProj))
	}
}

// P27.1: the fields' numbers are eight different bits, those of the chapter.
func TestConstants(t *testing.T) {
	for i, part := range []int{kind.Pos, kind.Count, kind.State, kind.Streams, kind.Links, kind.Data, kind.Seal, kind.Proj} {
		if part != 1<<i {
			t.Error(i, part)
		}
	}
}

// P27.1: the numbers from 1 to 14 are the kinds, those of api.
func TestRight(t *testing.T) {
	for _, k := range []int{api.Read, api.Write, api.SealReq, api.Trim, api.Fill, api.Take, api.GetProj, api.PutProj,
		api.Value, api.Done, api.Sealed, api.Taken, api.IsProj, api.Failed} {
		if !kind.Right(k) || of(k).kind != k {
			t.Error(k)
		}
	}
	for _, k := range noKinds {
		if kind.Right(k) {
			t.Error(k)
		}
	}
}

// P27.1: the kinds from 1 to 8 are those of requests.
func TestRequest(t *testing.T) {
	for _, k := range numbers() {
		if kind.Request(k) != (k >= 1 && k <= 8) {
			t.Error(k)
		}
	}
}

// P27.1: a request is answered by the kind of its row and by Failed, and nothing else by anything.
func TestAnswers(t *testing.T) {
	for _, k := range numbers() {
		for _, a := range numbers() {
			answer := of(k).answer
			if want := answer != 0 && (a == answer || a == api.Failed); kind.Answers(k, a) != want {
				t.Error(k, a, !want)
			}
		}
	}
}

// P27.1: Parts is the sum of the fields' numbers, and Has tells each of them, but no sums and nothing else.
func TestPartsAndHas(t *testing.T) {
	for _, k := range numbers() {
		sum := 0
		for _, part := range of(k).fields {
			sum += part
		}
		if kind.Parts(k) != sum {
			t.Error(k, kind.Parts(k), sum)
		}
		for part := -300; part <= 600; part++ {
			if want := slices.Contains(of(k).fields, part); kind.Has(k, part) != want {
				t.Error(k, part, !want)
			}
		}
		for _, part := range []int{math.MinInt, math.MinInt + 1, math.MaxInt, 1 << 32, 1<<32 + 1, 1 << 62} {
			if kind.Has(k, part) {
				t.Error(k, part)
			}
		}
	}
}

// P27.1: each kind has its word, and no other number has one.
func TestWord(t *testing.T) {
	for _, k := range numbers() {
		if s := kind.Word(k); s != of(k).word {
			t.Errorf("Word(%d) = %q", k, s)
		}
	}
}

// P27.1: each word has its kind, and no other text has one.
func TestFind(t *testing.T) {
	for _, x := range chapter {
		if k, ok := kind.Find(x.word); k != x.kind || !ok {
			t.Error(x.word, k, ok)
		}
		for _, s := range []string{x.word + " ", " " + x.word, x.word + "s", x.word[1:], strings.ToUpper(x.word), x.word + "\x00"} {
			if k, ok := kind.Find(s); k != 0 || ok {
				t.Errorf("Find(%q) = %d, %v", s, k, ok)
			}
		}
	}
	for _, s := range []string{"", " ", "1", "14", "Read", "sealreq", "getproj", "isproj", "read write"} {
		if k, ok := kind.Find(s); k != 0 || ok {
			t.Errorf("Find(%q) = %d, %v", s, k, ok)
		}
	}
}

// P27.1: All is the kinds from 1 to 14, a list of one's own each time.
func TestAll(t *testing.T) {
	want := []int{1, 2, 3, 4, 5, 6, 7, 8, 9, 10, 11, 12, 13, 14}
	l := kind.All()
	if !slices.Equal(l, want) {
		t.Error(l)
	}
	clear(l)
	if again := kind.All(); !slices.Equal(again, want) {
		t.Error(again)
	}
}

// P27.2: each kind is that of a request or of a response, and each request is answered by two kinds of
// responses, one of which is Failed; a response is answered by nothing.
func TestConsequences(t *testing.T) {
	answered := map[int]bool{}
	for _, k := range kind.All() {
		var answers []int
		for _, a := range numbers() {
			if kind.Answers(k, a) {
				answers = append(answers, a)
				answered[a] = true
			}
		}
		if !kind.Request(k) {
			if len(answers) > 0 {
				t.Error(k, answers)
			}
			continue
		}
		if len(answers) != 2 || !slices.Contains(answers, api.Failed) {
			t.Error(k, answers)
		}
	}
	for _, k := range kind.All() {
		if kind.Request(k) == answered[k] {
			t.Error(k, answered[k])
		}
	}
}

// P27.2: each kind has a word, which no other one has and by which it is found.
func TestWordsAreFound(t *testing.T) {
	for _, k := range kind.All() {
		if found, ok := kind.Find(kind.Word(k)); found != k || !ok {
			t.Error(k, found, ok)
		}
	}
}

// structs are the package's struct types, and arrays the functions that give an array of them.
func structs(file *ast.File) (names, arrays []string) {
	for _, d := range file.Decls {
		switch x := d.(type) {
		case *ast.GenDecl:
			for _, s := range x.Specs {
				if y, ok := s.(*ast.TypeSpec); ok {
					if _, ok := y.Type.(*ast.StructType); ok {
						names = append(names, y.Name.Name)
					}
				}
			}
		case *ast.FuncDecl:
			if x.Type.Results == nil {
				continue
			}
			for _, r := range x.Type.Results.List {
				if y, ok := r.Type.(*ast.ArrayType); ok && y.Len != nil {
					if of, ok := y.Elt.(*ast.Ident); ok {
						arrays = append(arrays, of.Name)
					}
				}
			}
		}
	}
	return names, arrays
}

// Ways of layer 27: a function makes the table, an array of structs.
func TestTableIsAnArrayOfStructsThatAFunctionMakes(t *testing.T) {
	files, err := filepath.Glob("*.go")
	if err != nil {
		t.Fatal(err)
	}
	found := false
	for _, name := range files {
		if strings.HasSuffix(name, "_test.go") {
			continue
		}
		file, err := parser.ParseFile(token.NewFileSet(), name, nil, 0)
		if err != nil {
			t.Fatal(err)
		}
		names, arrays := structs(file)
		found = found || slices.ContainsFunc(arrays, func(s string) bool { return slices.Contains(names, s) })
	}
	if !found {
		t.Error("no function gives an array of structs")
	}
}
