package tests

import (
	"math/rand"
	"regexp"
	"slices"
	"strconv"
	"strings"
	"testing"

	"loop.example/overloads/impl"
)

// A tree is a term by its parts: a call if it has a name, and a literal if it has none.
type tree struct {
	name  string
	parts []tree
	kind  int
	value int
}

func (n tree) text() string {
	if n.name == "" {
		return strconv.Itoa(n.kind) + ":" + strconv.Itoa(n.value)
	}
	return n.name + "(" + strings.Join(n.partTexts(), ",") + ")"
}

func (n tree) partTexts() []string {
	var list []string
	for _, part := range n.parts {
		list = append(list, part.text())
	}
	return list
}

func (n tree) size() int {
	sum := 1
	for _, part := range n.parts {
		sum += part.size()
	}
	return sum
}

func (n tree) depth() int {
	if n.name == "" {
		return 0
	}
	depth := 1
	for _, part := range n.parts {
		depth = max(depth, 1+part.depth())
	}
	return depth
}

func (n tree) calls(name string) bool {
	return n.name == name || slices.ContainsFunc(n.parts, func(part tree) bool { return part.calls(name) })
}

func (n tree) names() string {
	names := ""
	for _, name := range strings.Split("fghijk", "") {
		if n.calls(name) {
			names += name
		}
	}
	return names
}

// literals returns the places of the literals, from the left.
func (n *tree) literals() []*tree {
	if n.name == "" {
		return []*tree{n}
	}
	var list []*tree
	for i := range n.parts {
		list = append(list, n.parts[i].literals()...)
	}
	return list
}

// someTree returns a pseudo-random term of at most so many bytes, of which there are at least three.
func someTree(source *rand.Rand, bytes int) tree {
	kind := source.Intn(8)
	n := tree{name: string(rune('f' + source.Intn(6)))}
	switch {
	case kind > 2 && bytes >= 10:
		first := 3 + source.Intn(bytes-9)
		n.parts = []tree{someTree(source, first), someTree(source, bytes-4-first)}
	case kind > 1 && bytes >= 6:
		n.parts = []tree{someTree(source, bytes-3)}
	case kind > 0:
		n = tree{kind: source.Intn(10), value: source.Intn(10)}
	}
	return n
}

// termAnswers are what the functions of the chapter return for a text.
type termAnswers struct {
	head  string
	parts []string
	size  int
	depth int
	names string
}

// checkTerm compares what is returned for a term with what is wanted.
func checkTerm(t *testing.T, term string, want termAnswers) {
	t.Helper()
	if !impl.TermValid(term) {
		t.Errorf("%q is not valid", term)
	}
	if got := impl.HeadOf(term); got != want.head {
		t.Errorf("HeadOf(%q) returns %q, not %q", term, got, want.head)
	}
	if got := impl.PartsOf(term); !slices.Equal(got, want.parts) {
		t.Errorf("PartsOf(%q) returns %q, not %q", term, got, want.parts)
	}
	if got := impl.SizeOf(term); got != want.size {
		t.Errorf("SizeOf(%q) returns %d, not %d", term, got, want.size)
	}
	if got := impl.DepthOf(term); got != want.depth {
		t.Errorf("DepthOf(%q) returns %d, not %d", term, got, want.depth)
	}
	if got := impl.NamesIn(term); got != want.names {
		t.Errorf("NamesIn(%q) returns %q, not %q", term, got, want.names)
	}
	if want.head == "" {
		return
	}
	checkLiteral(t, term, 0, 0, false)
	if got, ok := impl.CallTerm(want.head, want.parts); got != term || !ok {
		t.Errorf("CallTerm(%q, %q) returns %q, %v, not %q", want.head, want.parts, got, ok, term)
	}
}

// checkLiteral compares what LiteralOf returns with what is wanted.
func checkLiteral(t *testing.T, text string, kind int, value int, want bool) {
	t.Helper()
	if k, v, ok := impl.LiteralOf(text); k != kind || v != value || ok != want {
		t.Errorf("LiteralOf(%q) returns %d, %d, %v, not %d, %d, %v", text, k, v, ok, kind, value, want)
	}
}

// checkCallTerm compares what CallTerm returns with what is wanted, where nothing is wanted if the text is empty.
func checkCallTerm(t *testing.T, name string, parts []string, want string) {
	t.Helper()
	if got, ok := impl.CallTerm(name, parts); got != want || ok != (want != "") {
		t.Errorf("CallTerm(%.80q, %.80q) returns %q, %v, not %q", name, parts[:min(len(parts), 5)], got, ok, want)
	}
}

// checkPut compares what PutLiteral returns with what is wanted, where nothing is wanted if the text is empty.
func checkPut(t *testing.T, term string, i int, kind int, value int, want string) {
	t.Helper()
	if got, ok := impl.PutLiteral(term, i, kind, value); got != want || ok != (want != "") {
		t.Errorf("PutLiteral(%.80q, %d, %d, %d) returns %q, %v, not %q", term, i, kind, value, got, ok, want)
	}
}

// checkNoTerm checks that nothing is returned for a text.
func checkNoTerm(t *testing.T, text string) {
	t.Helper()
	if impl.TermValid(text) || impl.HeadOf(text) != "" || len(impl.PartsOf(text)) != 0 || impl.NamesIn(text) != "" {
		t.Errorf("%.80q is a term: HeadOf %q, PartsOf %q, NamesIn %q", text, impl.HeadOf(text), impl.PartsOf(text), impl.NamesIn(text))
	}
	if size, depth := impl.SizeOf(text), impl.DepthOf(text); size != -1 || depth != -1 {
		t.Errorf("of %.80q, SizeOf returns %d and DepthOf %d", text, size, depth)
	}
	checkLiteral(t, text, 0, 0, false)
	for i := -1; i < 3; i++ {
		checkPut(t, text, i, 0, 1, "")
	}
	checkCallTerm(t, "f", []string{text}, "")
	checkCallTerm(t, "f", []string{text, "0:1"}, "")
	checkCallTerm(t, "f", []string{"0:1", text}, "")
}

// termOfLength returns a term of so many bytes, of which there are at least 18.
func termOfLength(bytes int) string {
	term := "0:1"
	for range bytes % 3 {
		term = "g(" + term + ",1:2)"
	}
	for len(term) < bytes {
		term = "f(" + term + ")"
	}
	return term
}

func TestTermOrdinary(t *testing.T) {
	for term, want := range map[string]termAnswers{
		"f(0:1)":                          {"f", []string{"0:1"}, 2, 1, "f"},
		"g(f(0:1),1:2)":                   {"g", []string{"f(0:1)", "1:2"}, 4, 2, "fg"},
		"g(1:2,f(0:1))":                   {"g", []string{"1:2", "f(0:1)"}, 4, 2, "fg"},
		"f(0:1,0:1)":                      {"f", []string{"0:1", "0:1"}, 3, 1, "f"},
		"k(9:9,0:0)":                      {"k", []string{"9:9", "0:0"}, 3, 1, "k"},
		"i(h(g(f(0:1))))":                 {"i", []string{"h(g(f(0:1)))"}, 5, 4, "fghi"},
		"f(f(f(0:1,1:2),2:3),f(3:4,4:5))": {"f", []string{"f(f(0:1,1:2),2:3)", "f(3:4,4:5)"}, 9, 3, "f"},
		"j(g(0:1,0:1),g(j(0:1),k(2:2)))":  {"j", []string{"g(0:1,0:1)", "g(j(0:1),k(2:2))"}, 9, 3, "gjk"},
		"f(g(h(1:1)),0:0)":                {"f", []string{"g(h(1:1))", "0:0"}, 5, 3, "fgh"},
		"f(0:0,g(h(1:1)))":                {"f", []string{"0:0", "g(h(1:1))"}, 5, 3, "fgh"},
		"k(j(i(h(g(f(0:0),0:1)))),1:0)":   {"k", []string{"j(i(h(g(f(0:0),0:1))))", "1:0"}, 9, 6, "fghijk"},
	} {
		checkTerm(t, term, want)
	}
}

func TestTermLiterals(t *testing.T) {
	for kind := range 10 {
		for value := range 10 {
			term := strconv.Itoa(kind) + ":" + strconv.Itoa(value)
			checkTerm(t, term, termAnswers{size: 1})
			checkLiteral(t, term, kind, value, true)
			checkPut(t, "5:5", 0, kind, value, term)
		}
	}
}

func TestTermWithoutArguments(t *testing.T) {
	for term, want := range map[string]termAnswers{
		"f()":               {"f", nil, 1, 1, "f"},
		"h()":               {"h", nil, 1, 1, "h"},
		"k()":               {"k", nil, 1, 1, "k"},
		"f(g())":            {"f", []string{"g()"}, 2, 2, "fg"},
		"k(f(),0:1)":        {"k", []string{"f()", "0:1"}, 3, 2, "fk"},
		"k(0:1,f())":        {"k", []string{"0:1", "f()"}, 3, 2, "fk"},
		"h(h(),h())":        {"h", []string{"h()", "h()"}, 3, 2, "h"},
		"f(k(j(),i()),h())": {"f", []string{"k(j(),i())", "h()"}, 5, 3, "fhijk"},
	} {
		checkTerm(t, term, want)
	}
	for _, parts := range [][]string{nil, {}, spareTexts()} {
		checkCallTerm(t, "i", parts, "i()")
	}
	// There is no literal in place of which another one could be put.
	for _, term := range []string{"f()", "f(g())", "h(h(),h())"} {
		for i := -1; i < 3; i++ {
			checkPut(t, term, i, 0, 0, "")
		}
	}
}

func TestTermLimits(t *testing.T) {
	if impl.MaxTerm != 60 {
		t.Errorf("MaxTerm is %d", impl.MaxTerm)
	}
	for bytes := 18; bytes <= 80; bytes++ {
		term := termOfLength(bytes)
		if len(term) != bytes {
			t.Fatalf("%q has %d bytes, not %d", term, len(term), bytes)
		}
		if bytes > impl.MaxTerm {
			checkNoTerm(t, term)
			continue
		}
		wide := bytes % 3
		deep := (bytes - 3 - 7*wide) / 3
		names := "fg"
		if wide == 0 {
			names = "f"
		}
		checkTerm(t, term, termAnswers{"f", []string{term[2 : bytes-1]}, 1 + 2*wide + deep, wide + deep, names})
	}
	deepest := strings.Repeat("f(", 19) + "k()" + strings.Repeat(")", 19)
	checkTerm(t, deepest, termAnswers{"f", []string{deepest[2:59]}, 20, 20, "fk"})
	checkNoTerm(t, "f("+deepest+")")
	widest := "f(" + strings.Repeat("f(0:1,", 7) + "0:1" + strings.Repeat(")", 7) + ",1:2)"
	checkTerm(t, widest, termAnswers{"f", []string{widest[2:54], "1:2"}, 17, 8, "f"})
	for _, text := range []string{strings.Repeat("0:1", 100000), strings.Repeat("f(", 1000000), strings.Repeat("f(", 100000) + strings.Repeat(")", 100000), strings.Repeat("f(0:1,", 100000), strings.Repeat("0", 1000000), deepest + strings.Repeat(" ", 1000)} {
		checkNoTerm(t, text)
	}
}

func TestTextsThatAreNoTerms(t *testing.T) {
	for _, text := range []string{
		"", " ", "0", ":", "0:", ":1", "0:1:", "0::1", "00:1", "0:11", "0:1:1", "-1:0", "0:-1", "+0:1", "0 :1", "0: 1", " 0:1", "0:1 ", "0:1\n", "0;1", "0>1", "a:1", "0:a", "0:f", "f:0",
		"f", "f(", "f)", "()", "(0:1)", "((0:1))", "f((0:1))", "f0:1", "f0:1)", "f(0:1", "f(0:1))", "f(0:1)(", "f()()", "f()f()", "f()0:1", "0:1f()", "0:1()", "f(0)", "f(0:)", "f(:1)", "f(g)", "f(g,h)", "f(g(0:1)", "f(g(0:1)),0:1)", "f(f(f(f(",
		"F()", "K(0:1)", "e()", "l()", "e(0:1)", "a(0:1)", "z()", "fg()", "ff(0:1)", "f (0:1)", " f()", "f() ", "f( )", "f( 0:1)", "f(0:1 )", "f(e())", "f(0:1,l())", "@0(0:1)", "#0(0:1)", "f[0:1]", "f{0:1}", "f(0:1]",
		"f(,)", "f(,0:1)", "f(0:1,)", "f(0:1,,0:1)", "f(0:1, 0:1)", "f(0:1 0:1)", "f(0:1;0:1)", "f(0:10:1)", "f(0:1,0:1", "f(0:1,0:1,", "f(0:1,0:1,)", "f(0:1,0:1,0:1)", "f(0:1,0:1,0:1,0:1)", "f(g(),h(),i())", "f(g(0:1,0:1,0:1))", "f(0:1,g(0:1,0:1,0:1))", "0:1,0:1", ",", ",0:1", "0:1,", "f(),g()",
		"\x00", "0:1\x00", "\x000:1", "f(\x00)", "f\x00()", "\xff", "0:\xb1", "\xe6()", "0\xff:1", "f(\xff)", "٠:١", "０:１", "0：1", "ſ()", "ｆ()", "f（0:1）", "f(0:1，0:1)", "0:1\u200b", "\ufefff()", "é",
	} {
		checkNoTerm(t, text)
	}
}

// givenTerms are terms of all sorts.
var givenTerms = []string{"0:1", "h()", "f(0:1)", "g(f(0:1),1:2)", "k(9:9,h())", "f(k(j(),i()),h())", "f(f(f(0:1,1:2),2:3),f(3:4,4:5))", termOfLength(59), termOfLength(60)}

// TestTermsThatEndEarly has the beginnings and ends of terms, of which none is one.
func TestTermsThatEndEarly(t *testing.T) {
	for _, term := range givenTerms {
		for i := range len(term) {
			checkNoTerm(t, term[:i])
		}
		checkNoTerm(t, term[1:])
		for _, more := range []string{")", "(", ",", " ", "0", term, "," + term} {
			checkNoTerm(t, term+more)
		}
	}
}

// innermost is a call that has only literals as arguments.
var innermost = regexp.MustCompile(`[f-k]\(([0-9]:[0-9](,[0-9]:[0-9])?)?\)`)

// literalText is a literal.
var literalText = regexp.MustCompile(`^[0-9]:[0-9]$`)

// isTermByDefinition tells whether a text is a term: whether it becomes a literal if one stands in place of each call.
func isTermByDefinition(text string) bool {
	if len(text) > 60 {
		return false
	}
	for innermost.MatchString(text) {
		text = innermost.ReplaceAllString(text, "0:0")
	}
	return literalText.MatchString(text)
}

// checkByDefinition compares whether a text is taken for a term with the definition, and tells what is.
func checkByDefinition(t *testing.T, text string) bool {
	t.Helper()
	want := isTermByDefinition(text)
	if !want {
		checkNoTerm(t, text)
	} else if !impl.TermValid(text) || impl.SizeOf(text) < 1 || impl.DepthOf(text) < 0 {
		t.Errorf("%q is not valid", text)
	}
	return want
}

func TestTermEdits(t *testing.T) {
	for _, term := range givenTerms {
		terms := 0
		for text := range edits(term) {
			if checkByDefinition(t, text) {
				terms++
			}
		}
		// In the least term, the name can be another one, and each sign itself.
		if terms < 9 {
			t.Errorf("%q: %d edits that are terms are too few", term, terms)
		}
		if t.Failed() {
			t.FailNow()
		}
	}
}

// TestTermSignRows has all texts of few signs, each of which some term has.
func TestTermSignRows(t *testing.T) {
	signs := []string{"0:1", "f(", ")", ",", "g"}
	texts, terms := []string{""}, 0
	for range 7 {
		var longer []string
		for _, text := range texts {
			for _, sign := range signs {
				longer = append(longer, text+sign)
			}
		}
		texts = longer
		for _, text := range texts {
			want := isTermByDefinition(text)
			if impl.TermValid(text) != want {
				t.Fatalf("TermValid(%q) returns %v", text, !want)
			}
			if want {
				terms++
			}
		}
	}
	// Of one to seven signs there are 1, 1, 1, 1, 2, 3 and 5.
	if terms != 14 {
		t.Errorf("there are %d terms", terms)
	}
}

// TestTermTrees compares what is returned for pseudo-random terms of a fixed seed with what they were made of.
func TestTermTrees(t *testing.T) {
	source := rand.New(rand.NewSource(6))
	seen := map[string]int{}
	for range 3000 {
		n := someTree(source, 3+source.Intn(58))
		term := n.text()
		seen[strconv.Itoa(len(n.parts))+" arguments"]++
		seen["depth "+strconv.Itoa(min(n.depth(), 5))]++
		seen["bytes "+strconv.Itoa(len(term)/20)]++
		checkTerm(t, term, termAnswers{n.name, n.partTexts(), n.size(), n.depth(), n.names()})
		if n.name == "" {
			checkLiteral(t, term, n.kind, n.value, true)
		}
		if !isTermByDefinition(term) {
			t.Errorf("%q is none by definition", term)
		}
		checkPutInTree(t, source, n)
		if t.Failed() {
			t.FailNow()
		}
	}
	for _, kind := range []string{"0 arguments", "1 arguments", "2 arguments", "depth 0", "depth 1", "depth 5", "bytes 0", "bytes 1", "bytes 2"} {
		if seen[kind] < 50 {
			t.Errorf("%s: %d terms are too few", kind, seen[kind])
		}
	}
}

// checkPutInTree puts literals in place of each one of a term.
func checkPutInTree(t *testing.T, source *rand.Rand, n tree) {
	t.Helper()
	term := n.text()
	places := n.literals()
	for i, place := range places {
		before := *place
		place.kind, place.value = source.Intn(10), source.Intn(10)
		checkPut(t, term, i, place.kind, place.value, n.text())
		*place = before
		checkPut(t, term, i, before.kind, before.value, term)
	}
	for _, i := range []int{-1, len(places), len(places) + 1, most, least} {
		checkPut(t, term, i, 0, 1, "")
	}
}

func TestCallTerm(t *testing.T) {
	for _, c := range []struct {
		name  string
		parts []string
		want  string
	}{
		{"f", []string{"0:1"}, "f(0:1)"},
		{"g", []string{"f(0:1)", "1:2"}, "g(f(0:1),1:2)"},
		{"k", []string{"9:9", "h()"}, "k(9:9,h())"},
		{"k", []string{"h()", "9:9"}, "k(h(),9:9)"},
		{"f", []string{"f()", "f()"}, "f(f(),f())"},
		// Too many arguments.
		{"f", []string{"0:1", "0:1", "0:1"}, ""},
		{"f", []string{"0:1", "0:1", "x"}, ""},
		{"f", make([]string, 100000), ""},
		{"f", slices.Repeat([]string{"0:1"}, 100000), ""},
		// What is no term, though the text would be one.
		{"f", []string{""}, ""},
		{"f", []string{"0:1,0:1"}, ""},
		{"f", []string{"f(),0:1"}, ""},
		{"f", []string{"g(0:1", "0:1)"}, ""},
		{"f", []string{"0:", "1"}, ""},
		{"f", []string{"", "0:1"}, ""},
		{"f", []string{"0:1", ""}, ""},
		{"f", []string{"", ""}, ""},
		{"f", []string{"0:1)"}, ""},
		{"f", []string{"0:1", "0:1,0:1"}, ""},
		{"f", []string{"0:1,0:1", "0:1"}, ""},
		{"f", []string{"0:1),g(0:1"}, ""},
	} {
		checkCallTerm(t, c.name, c.parts, c.want)
	}
}

func TestCallTermNames(t *testing.T) {
	for sign := range 256 {
		name := string([]byte{byte(sign)})
		want := ""
		if strings.Contains("fghijk", name) {
			want = name + "(0:1)"
		}
		checkCallTerm(t, name, []string{"0:1"}, want)
	}
	names := append(slices.Clone(strangeNames), "f(g", "f(0:1,g", "f()", "0:1", "f(0:1),g", "f(f", "g(f(0:1),h", "kf", "f0", "0f", "\u0166", "ｆ")
	for _, name := range names {
		for _, parts := range [][]string{nil, {"0:1"}, {"0:1", "h()"}, {"0:1", "0:1", "0:1"}, {""}} {
			checkCallTerm(t, name, parts, "")
		}
	}
}

func TestCallTermLimits(t *testing.T) {
	for bytes := 18; bytes <= 60; bytes++ {
		part, want := termOfLength(bytes), ""
		if bytes <= 57 {
			want = "h(" + part + ")"
		}
		checkCallTerm(t, "h", []string{part}, want)
		want = ""
		if bytes <= 53 {
			want = "h(" + part + ",2:2)"
		}
		checkCallTerm(t, "h", []string{part, "2:2"}, want)
		if want != "" {
			want = "h(2:2," + part + ")"
		}
		checkCallTerm(t, "h", []string{"2:2", part}, want)
	}
	half := termOfLength(28)
	checkCallTerm(t, "i", []string{half, half}, "i("+half+","+half+")")
	checkCallTerm(t, "i", []string{half, termOfLength(29)}, "")
	checkCallTerm(t, "i", []string{termOfLength(29), half}, "")
	checkCallTerm(t, "i", []string{termOfLength(61)}, "")
	checkCallTerm(t, "i", []string{strings.Repeat("f(", 1000000)}, "")
}

func TestPutLiteral(t *testing.T) {
	const term = "g(f(0:1),k(1:2,0:1))"
	checkPut(t, term, 0, 2, 3, "g(f(2:3),k(1:2,0:1))")
	checkPut(t, term, 1, 2, 3, "g(f(0:1),k(2:3,0:1))")
	checkPut(t, term, 2, 2, 3, "g(f(0:1),k(1:2,2:3))")
	checkPut(t, term, 1, 1, 2, term)
	checkPut(t, "f(0:1,0:1)", 1, 0, 2, "f(0:1,0:2)")
	checkPut(t, "f(h(),0:1)", 0, 9, 9, "f(h(),9:9)")
	for _, i := range []int{-1, least, least + 1, 3, 4, most} {
		checkPut(t, term, i, 2, 3, "")
	}
	for _, number := range []int{-1, 10, 11, 48, 100, 256, 1 << 32, most, least} {
		for i := range 4 {
			checkPut(t, term, i, number, 3, "")
			checkPut(t, term, i, 2, number, "")
			checkPut(t, term, i, number, number, "")
		}
		checkPut(t, "0:1", 0, number, 0, "")
		checkPut(t, "0:1", 0, 0, number, "")
	}
}

// spareTexts returns texts in a slice that has unused capacity, filled with a mark.
func spareTexts(list ...string) []string {
	full := append(slices.Clone(list), "-", "-", "-")
	return full[:len(list)]
}

func TestTermsKeepMemory(t *testing.T) {
	for _, term := range givenTerms {
		// Memory that can be told from that of other texts.
		term = strings.Clone(term)
		bytes := [][]*byte{byteCells(term)}
		var lists [][]*string
		for range 2 {
			parts := impl.PartsOf(term)
			lists = append(lists, cellsOf(parts))
			for _, part := range parts {
				bytes = append(bytes, byteCells(part))
			}
			put, _ := impl.PutLiteral(term, 0, 0, 1)
			bytes = append(bytes, byteCells(impl.HeadOf(term)), byteCells(impl.NamesIn(term)), byteCells(put))
		}
		checkApart(t, lists...)
		checkApart(t, bytes...)
	}
}

func TestCallTermKeepsMemory(t *testing.T) {
	for _, list := range [][]string{{}, {"0:1"}, {"f(0:1)", "1:2"}, {"0:1", "x"}, {"0:1", "0:1", "0:1"}} {
		name := strings.Clone("f")
		bytes := [][]*byte{byteCells(name)}
		parts := spareTexts()
		for _, text := range list {
			parts = spareTexts(append(parts, strings.Clone(text))...)
		}
		for _, text := range parts {
			bytes = append(bytes, byteCells(text))
		}
		for range 2 {
			term, _ := impl.CallTerm(name, parts)
			bytes = append(bytes, byteCells(term))
		}
		checkApart(t, bytes...)
		if after := parts[:len(parts)+3]; !slices.Equal(after, append(slices.Clone(list), "-", "-", "-")) {
			t.Errorf("arguments were %q and are %q", list, after)
		}
	}
}

// TestTermsKeepNoState asks the same of terms between which others were asked about, and of parts that have changed.
func TestTermsKeepNoState(t *testing.T) {
	parts := []string{"f(0:1)", "1:2"}
	for range 3 {
		checkTerm(t, "g(f(0:1),1:2)", termAnswers{"g", []string{"f(0:1)", "1:2"}, 4, 2, "fg"})
		checkNoTerm(t, "g(f(0:1),1:2")
		checkTerm(t, "h()", termAnswers{"h", nil, 1, 1, "h"})
		list := impl.PartsOf("g(f(0:1),1:2)")
		list[0], list[1] = "-", "-"
		checkCallTerm(t, "g", parts, "g(f(0:1),1:2)")
		checkPut(t, "g(f(0:1),1:2)", 1, 3, 3, "g(f(0:1),3:3)")
	}
	parts[0] = "h()"
	checkCallTerm(t, "g", parts, "g(h(),1:2)")
	parts[1] = "-"
	checkCallTerm(t, "g", parts, "")
}

// TestTermsTogether reads terms at the same time; it is for the race detector too.
func TestTermsTogether(t *testing.T) {
	parts := []string{"f(0:1)", "1:2"}
	done := make(chan bool)
	for range 8 {
		go func() {
			term, ok := impl.CallTerm("g", parts)
			other, put := impl.PutLiteral(term, 1, 0, 3)
			done <- ok && put && other == "g(f(0:1),0:3)" && impl.HeadOf(term) == "g" && impl.NamesIn(term) == "fg" &&
				slices.Equal(impl.PartsOf(term), parts) && impl.SizeOf(term) == 4 && impl.DepthOf(term) == 2 && !impl.TermValid(term+")")
		}()
	}
	for range 8 {
		if !<-done {
			t.Error("answers differ")
		}
	}
}
