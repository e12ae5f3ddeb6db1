package tests

import (
	"math/rand"
	"runtime"
	"slices"
	"strconv"
	"strings"
	"testing"

	"loop.example/overloads/impl"
)

// A judgement is what is wanted of a valid system: whether its types are in doubt, its first gap, told as `f of 0 1`, and
// its first clash, told as `0 and 1 at 2`; the texts are empty if there is none.
type judgement struct {
	doubt bool
	gap   string
	clash string
}

// faults tells the letters of what a system is not.
func (want judgement) faults() string {
	letters := ""
	if want.doubt {
		letters += "d"
	}
	if want.gap != "" {
		letters += "g"
	}
	if want.clash != "" {
		letters += "c"
	}
	return letters
}

// gapText tells what GapOf returns.
func gapText(gap impl.Gap, ok bool) string {
	switch {
	case ok:
		return gap.Name + " of " + joined(gap.Kinds, " ")
	case gap.Name != "" || len(gap.Kinds) != 0:
		return "a gap, but false"
	}
	return ""
}

// clashText tells what ClashOf returns.
func clashText(clash impl.Clash, ok bool) string {
	switch {
	case ok:
		return strconv.Itoa(clash.First) + " and " + strconv.Itoa(clash.Second) + " at " + joined(clash.Values, " ")
	case clash.First != 0 || clash.Second != 0 || len(clash.Values) != 0:
		return "a clash, but false"
	}
	return ""
}

// checkJudged compares what is returned for a valid system with what is wanted.
func checkJudged(t *testing.T, s impl.System, want judgement) {
	t.Helper()
	text := impl.FormatSystem(s)
	if got := gapText(impl.GapOf(s)); got != want.gap {
		t.Errorf("%s: GapOf tells %q, not %q", text, got, want.gap)
	}
	if got := impl.IsRegular(s); got != (want.gap == "") {
		t.Errorf("%s: IsRegular returns %v", text, got)
	}
	if got := clashText(impl.ClashOf(s)); got != want.clash {
		t.Errorf("%s: ClashOf tells %q, not %q", text, got, want.clash)
	}
	if got := impl.IsConsistent(s); got != (want.clash == "") {
		t.Errorf("%s: IsConsistent returns %v", text, got)
	}
	if got := impl.FaultsOf(s); got != want.faults() {
		t.Errorf("%s: FaultsOf returns %q, not %q", text, got, want.faults())
	}
	if got := impl.IsGood(s); got != (want == judgement{}) {
		t.Errorf("%s: IsGood returns %v", text, got)
	}
}

// checkNotJudged checks what is returned for a system that is not valid.
func checkNotJudged(t *testing.T, s impl.System) {
	t.Helper()
	gap, clash := gapText(impl.GapOf(s)), clashText(impl.ClashOf(s))
	if gap != "" || clash != "" || impl.IsRegular(s) || impl.IsConsistent(s) || impl.IsGood(s) || impl.FaultsOf(s) != "-" {
		t.Errorf("%s: GapOf tells %q, IsRegular returns %v, ClashOf tells %q, IsConsistent returns %v, IsGood %v, FaultsOf %q", impl.FormatSystem(s), gap, impl.IsRegular(s), clash, impl.IsConsistent(s), impl.IsGood(s), impl.FaultsOf(s))
	}
}

// A reach tells, for two types, what the first one of the shortest ways makes of all values; there is nothing if there is
// no way. It tells too whether some ways do not agree.
type reach struct {
	images [impl.MaxTypes][impl.MaxTypes][]int
	doubt  bool
}

func reachOf(types impl.Types) reach {
	var r reach
	for from := range types.Sizes {
		for to := range types.Sizes {
			list, _ := impl.WaysOf(types, from, to)
			if len(list) == 0 {
				continue
			}
			shortest := slices.MinFunc(list, func(a []int, b []int) int { return len(a) - len(b) })
			for value := range types.Sizes[from] {
				r.images[from][to] = append(r.images[from][to], image(types, shortest, value))
				for _, way := range list {
					r.doubt = r.doubt || image(types, way, value) != image(types, shortest, value)
				}
			}
		}
	}
	return r
}

// leads reports whether ways lead from all of some types to others.
func (r reach) leads(from []int, to []int) bool {
	if len(from) != len(to) {
		return false
	}
	for place := range from {
		if r.images[from[place]][to[place]] == nil {
			return false
		}
	}
	return true
}

// isBelow reports whether a function is below another one.
func (r reach) isBelow(f impl.Function, other impl.Function) bool {
	return f.Name == other.Name && r.leads(f.Args, other.Args)
}

// valueRows tells all values of the arguments of a function, in order.
func valueRows(s impl.System, f impl.Function) [][]int {
	return slices.DeleteFunc(rows(len(f.Args), 0, impl.MaxValues-1), func(values []int) bool {
		for place, value := range values {
			if value >= s.Sizes[f.Args[place]] {
				return true
			}
		}
		return false
	})
}

// resultFor tells the result of a function for values of types that lead to those of its arguments.
func (r reach) resultFor(s impl.System, f impl.Function, kinds []int, values []int) int {
	row := 0
	for place, value := range values {
		row = row*s.Sizes[f.Args[place]] + r.images[kinds[place]][f.Args[place]][value]
	}
	return f.Table[row]
}

// gapByDefinition tells whether some functions of a name, but none of them below all, are applicable to types.
func (r reach) gapByDefinition(s impl.System, name string, kinds []int) bool {
	applicable := slices.DeleteFunc(slices.Clone(s.Functions), func(f impl.Function) bool { return f.Name != name || !r.leads(kinds, f.Args) })
	return len(applicable) > 0 && !slices.ContainsFunc(applicable, func(f impl.Function) bool {
		return !slices.ContainsFunc(applicable, func(other impl.Function) bool {
			return !r.isBelow(f, other) || r.images[f.Result][other.Result] == nil
		})
	})
}

// judgedByDefinition tells what is wanted of a valid system.
func judgedByDefinition(s impl.System) judgement {
	r := reachOf(s.Types)
	want := judgement{doubt: r.doubt}
	for _, name := range strings.Split("fghijk", "") {
		for args := range 3 {
			for _, kinds := range rows(args, 0, len(s.Sizes)-1) {
				if want.gap == "" && r.gapByDefinition(s, name, kinds) {
					want.gap = name + " of " + joined(kinds, " ")
				}
			}
		}
	}
	for i, f := range s.Functions {
		for k, other := range s.Functions {
			if !r.isBelow(f, other) || r.images[f.Result][other.Result] == nil {
				continue
			}
			for _, values := range valueRows(s, f) {
				result := r.images[f.Result][other.Result][r.resultFor(s, f, f.Args, values)]
				if want.clash == "" && result != r.resultFor(s, other, f.Args, values) {
					want.clash = strconv.Itoa(i) + " and " + strconv.Itoa(k) + " at " + joined(values, " ")
				}
			}
		}
	}
	return want
}

// A valueTable tells, for each type, which values the explicit terms of a term have with it, however many they are.
type valueTable [impl.MaxTypes][impl.MaxValues]bool

// valuesOfAll tells the values of all explicit terms of a term in a valid system: those of its arguments are chosen each
// for itself, so that what counts of them is which values they can have.
func valuesOfAll(s impl.System, n tree) valueTable {
	var table valueTable
	if n.name == "" && n.kind < len(s.Sizes) && n.value < s.Sizes[n.kind] {
		table[n.kind][n.value] = true
	}
	var parts []valueTable
	for _, part := range n.parts {
		parts = append(parts, valuesOfAll(s, part))
	}
	for _, f := range s.Functions {
		if f.Name != n.name || len(f.Args) != len(parts) {
			continue
		}
	calls:
		for i, values := range valueRows(s, f) {
			for place, value := range values {
				if !parts[place][f.Args[place]][value] {
					continue calls
				}
			}
			table[f.Result][f.Table[i]] = true
		}
	}
	// Coercions lead to later types, so that all values of a type are there when it is gone on from it.
	for kind := range s.Sizes {
		for _, c := range s.Coercions {
			for value := range c.Map {
				if c.From == kind && table[kind][value] {
					table[c.To][c.Map[value]] = true
				}
			}
		}
	}
	return table
}

// promiseBroken tells how promise 10 is broken for a term in a valid system, and nothing if it is kept: all explicit terms
// with one type have the same value, there are some exactly if Elaborate makes one, and their types are those above its
// type. Then the value is that of RunAt.
func promiseBroken(s impl.System, n tree) string {
	table := valuesOfAll(s, n)
	_, least, why := impl.Elaborate(s, n.text())
	var kinds []int
	for kind, told := range table {
		var values []int
		for value, has := range told {
			if has {
				values = append(values, value)
			}
		}
		if len(values) > 1 {
			return "values " + joined(values, " ") + " of the type " + strconv.Itoa(kind)
		}
		if len(values) == 1 {
			kinds = append(kinds, kind)
			if value, why := impl.RunAt(s, n.text(), kind); why == "ok" && value != values[0] {
				return "another value of RunAt"
			}
		}
	}
	if (why == "ok") != (len(kinds) > 0) {
		return why + ", and types " + joined(kinds, " ")
	}
	if !slices.Equal(kinds, impl.AboveOf(s.Types, least)) {
		return "types " + joined(kinds, " ") + " of one of the type " + strconv.Itoa(least)
	}
	return ""
}

// checkPromise checks promise 10 for a term in a good system, and what the functions of the chapters before tell of it.
func checkPromise(t *testing.T, s impl.System, n tree) {
	t.Helper()
	system, term := impl.FormatSystem(s), n.text()
	if broken := promiseBroken(s, n); broken != "" {
		t.Errorf("%s: %q: %s", system, term, broken)
	}
	least := impl.TypeOf(s, term)
	if kinds, above := impl.KindsOf(s, term), impl.AboveOf(s.Types, least); !slices.Equal(kinds, above) || impl.LeastKind(s, term) != least || impl.IsAmbiguous(s, term) {
		t.Errorf("%s: %q has the type %d, KindsOf returns %v, LeastKind %d, IsAmbiguous %v", system, term, least, kinds, impl.LeastKind(s, term), impl.IsAmbiguous(s, term))
	}
	for kind := range s.Sizes {
		value, why := impl.RunAt(s, term, kind)
		values, ok := impl.ValuesOf(s, term, kind)
		if ok && len(values) > 1 || ok && (len(values) == 1) != (why == "ok") || len(values) == 1 && values[0] != value {
			t.Errorf("%s: %q has with the type %d the value %d, %s, of %v", system, term, kind, value, why, values)
		}
		mades, _ := impl.AllMade(s, term, kind)
		for _, made := range mades {
			if !impl.SameMade(s, made, mades[0]) {
				t.Errorf("%s: %q has %q and %q with different values", system, term, mades[0], made)
			}
		}
	}
}

// flatTerms tells all literals, and all calls of functions of the names that there are with literals as arguments; one
// type and one value of each type, that there are not, are among them.
func flatTerms(s impl.System) []tree {
	var literals, terms []tree
	for kind, size := range append(slices.Clone(s.Sizes), 0) {
		for value := range size + 1 {
			literals = append(literals, tree{kind: kind, value: value})
		}
	}
	terms = append(terms, literals...)
	for _, name := range strings.Split("fghijk", "") {
		if !slices.ContainsFunc(s.Functions, func(f impl.Function) bool { return f.Name == name }) {
			continue
		}
		terms = append(terms, tree{name: name})
		for _, first := range literals {
			terms = append(terms, tree{name: name, parts: []tree{first}})
			for _, second := range literals {
				terms = append(terms, tree{name: name, parts: []tree{first, second}})
			}
		}
	}
	return terms
}

// brokenFlatTerm tells the first one of these terms for which promise 10 is broken, if there is one.
func brokenFlatTerm(s impl.System) (string, bool) {
	for _, n := range flatTerms(s) {
		if promiseBroken(s, n) != "" {
			return n.text(), true
		}
	}
	return "", false
}

// TestGoodExample has the systems of the example of chapter 12.
func TestGoodExample(t *testing.T) {
	const types = "2 3;0>1:0 1"
	const functions = "/f(1)1:1 0 2/g(1,1)1:0 0 0 0 1 0 0 0 2"
	for text, want := range map[string]judgement{
		types + functions:                             {},
		types + functions + "/f(0)0:1 0":              {},
		types + ";0>1:1 0" + functions + "/f(0)0:1 0": {doubt: true},
		types + functions + "/f(0)0:0 0":              {clash: "2 and 0 at 0"},
		"2 2;0>1:0 1/f(0,1)0:0 1 0 1/f(1,0)1:0 0 1 1": {gap: "f of 0 0"},
	} {
		s := systemOf(t, text)
		checkJudged(t, s, want)
		checkJudged(t, s, judgedByDefinition(s))
	}
}

// judgedTexts are systems with what is wanted of them.
var judgedTexts = []struct {
	text string
	want judgement
}{
	// Systems without functions, and with one.
	{"1", judgement{}},
	{"4", judgement{}},
	{"1 1 1 1 1", judgement{}},
	{"2 3;0>1:0 2", judgement{}},
	{"2 2 2;0>1:1 0;1>2:1 0;0>2:0 1", judgement{}},
	{"2 2 2;0>1:1 0;1>2:1 0;0>2:1 0", judgement{doubt: true}},
	{"1/f()0:0", judgement{}},
	{"4/k()0:3", judgement{}},
	{"1 2 2;0>1:1;0>2:0/f(0)2:1", judgement{}},
	{"2 3;0>1:0 1/f(0,1)0:0 1 1 0 1 1", judgement{}},

	// Functions of one name that can't be compared, with types from which ways lead to both, and without such ones.
	{"1 1 1;0>1:0;0>2:0/f(1)0:0/f(2)0:0", judgement{gap: "f of 0"}},
	{"1 1 1;0>1:0;0>2:0/f(2)0:0/f(1)0:0", judgement{gap: "f of 0"}},
	{"1 1 1;0>1:0;0>2:0/f(2)0:0/f(1)0:0/f(0)0:0", judgement{}},
	{"1 1 1;0>1:0;0>2:0/f(0)0:0/f(1)1:0/f(2)2:0", judgement{}},
	{"1 1/f(0)0:0/f(1)0:0", judgement{}},
	{"1 1 1;0>2:0;1>2:0/f(0)0:0/f(1)0:0", judgement{}},
	{"1 1 1;0>2:0;1>2:0/f(0)0:0/f(1)0:0/f(2)2:0", judgement{}},
	{"1 1 1;0>2:0;1>2:0/f(0)0:0/f(1)1:0/f(2)2:0", judgement{}},
	{"1 1;0>1:0/f(0,1)0:0/f(1,0)0:0", judgement{gap: "f of 0 0"}},
	{"1 1;0>1:0/f(1,0)0:0/f(0,1)0:0", judgement{gap: "f of 0 0"}},
	{"1 1;0>1:0/f(1,0)0:0/f(0,1)0:0/f(0,0)0:0", judgement{}},
	{"1 1;0>1:0/f(0,0)0:0/f(1,0)0:0/f(0,1)0:0/f(1,1)0:0", judgement{}},
	{"1 1;0>1:0/f(1,0)0:0/f(0,1)0:0/f(1,1)0:0", judgement{gap: "f of 0 0"}},
	{"1 1 1;0>1:0;1>2:0/f(0,2)0:0/f(1,1)0:0", judgement{gap: "f of 0 0"}},
	{"1 1 1;0>1:0;1>2:0/f(0,2)0:0/f(1,1)0:0/f(0,0)0:0", judgement{gap: "f of 0 1"}},
	{"1 1 1;0>1:0;1>2:0/f(0,2)0:0/f(1,1)0:0/f(0,1)0:0", judgement{}},
	// One is below two others, but not below a third one.
	{"1 1 1 1;0>1:0;1>2:0;0>3:0/f(1)0:0/f(2)0:0/f(3)0:0", judgement{gap: "f of 0"}},
	{"1 1 1 1;0>1:0;1>2:0;0>3:0;1>3:0/f(1)0:0/f(2)0:0/f(3)0:0", judgement{}},
	// Only by ways of several coercions.
	{"1 1 1 1 1;0>1:0;1>2:0;2>3:0;1>4:0/f(4)0:0/f(3)0:0", judgement{gap: "f of 0"}},
	{"1 1 1 1 1;0>1:0;1>2:0;2>3:0;1>4:0/f(4)0:0/f(3)0:0/f(1)0:0", judgement{}},
	{"1 1 1 1 1;1>2:0;2>3:0;1>4:0/f(4)0:0/f(3)0:0", judgement{gap: "f of 1"}},

	// Results that can't be coerced: to an earlier type, to one beside it, to one of several.
	{"1 1;0>1:0/f(0)1:0/f(1)0:0", judgement{gap: "f of 0"}},
	{"1 1;0>1:0/f(0)0:0/f(1)1:0", judgement{}},
	{"1 1;0>1:0/f(0)1:0/f(1)1:0", judgement{}},
	{"1 1;0>1:0/f(0)0:0/f(1)0:0", judgement{}},
	{"1 1 1;0>1:0/f(0)0:0/f(1)2:0", judgement{gap: "f of 0"}},
	{"1 1 1;0>1:0/f(0)2:0/f(1)0:0", judgement{gap: "f of 0"}},
	{"1 1 1;0>1:0;1>2:0/f(0)0:0/f(1)2:0", judgement{}},
	{"1 1 1 1;0>1:0;1>2:0/f(0)0:0/f(1)1:0/f(2)3:0", judgement{gap: "f of 0"}},
	{"1 1 1;0>1:0;1>2:0/f(0)0:0/f(1)1:0/f(2)0:0", judgement{gap: "f of 1"}},
	{"1 1 1;0>1:0;1>2:0/f(2)0:0/f(1)1:0/f(0)0:0", judgement{gap: "f of 1"}},
	{"1 1;0>1:0/f(0,1)0:0/f(1,0)0:0/f(0,0)1:0", judgement{gap: "f of 0 0"}},
	{"1 1;0>1:0/f(0,1)1:0/f(1,0)1:0/f(0,0)1:0/f(1,1)0:0", judgement{gap: "f of 0 0"}},
	{"1 1;0>1:0/f(0,1)1:0/f(1,0)1:0/f(0,0)0:0/f(1,1)0:0", judgement{gap: "f of 0 1"}},
	// Of functions that can't be compared no result is asked.
	{"1 1/f(0)1:0/f(1)0:0", judgement{}},

	// Other names and other numbers of arguments do not count; functions without arguments leave no gap.
	{"1 1 1;0>1:0;0>2:0/f(1)0:0/g(2)0:0", judgement{}},
	{"1 1;0>1:0/f(0)1:0/g(1)0:0/f(1,1)0:0/f()0:0", judgement{}},
	{"1 1;0>1:0/f(0,1)0:0/g(1,0)0:0/f(0)1:0/f()0:0", judgement{}},
	{"2/f()0:0/g()0:1/h()0:0/i()0:1/j()0:0/k()0:1/k(0)0:0 0/k(0,0)0:0 0 0 0", judgement{}},
	{"1 1;0>1:0/f()1:0/g()0:0/f(0,0)0:0/f(0)0:0", judgement{}},

	// Of several gaps the first one: by the name, by the number of arguments, by the types.
	{"1 1 1;0>1:0;0>2:0/k(1)0:0/k(2)0:0/g(2)0:0/g(1)0:0", judgement{gap: "g of 0"}},
	{"1 1 1;0>1:0;0>2:0/k(1)0:0/k(2)0:0/h(0)0:0/j(2)0:0/j(1)0:0", judgement{gap: "j of 0"}},
	{"1 1 1;0>1:0;0>2:0/g(1)0:0/g(2)0:0/f(1,0)0:0/f(2,0)0:0", judgement{gap: "f of 0 0"}},
	{"1 1 1;0>1:0;0>2:0/f(1,0)0:0/f(2,0)0:0/f(1)0:0/f(2)0:0/f()0:0", judgement{gap: "f of 0"}},
	{"1 1 1 1 1;3>4:0;1>2:0/f(3)3:0/f(4)0:0/f(1)1:0/f(2)0:0", judgement{gap: "f of 1"}},
	{"1 1 1 1 1;3>4:0;1>2:0/f(3)3:0/f(4)0:0/f(1)1:0/f(2)2:0", judgement{gap: "f of 3"}},
	{"1 1 1 1 1;1>2:0;3>4:0/f(3,2)0:0/f(4,1)0:0/f(1,4)0:0/f(2,3)0:0", judgement{gap: "f of 1 3"}},
	{"1 1 1 1 1;1>2:0;3>4:0/f(3,2)0:0/f(4,1)0:0/f(1,4)0:0/f(2,3)0:0/f(3,1)0:0/f(1,3)0:0", judgement{}},
	{"1 1 1 1 1;1>2:0;3>4:0/f(3,2)0:0/f(4,1)0:0/f(3,4)0:0/f(4,3)0:0/f(1,4)0:0/f(2,3)0:0/f(1,3)0:0", judgement{gap: "f of 3 1"}},
	{"1 1 1 1 1;1>2:0;3>4:0/f(3,4)0:0/f(4,3)0:0/f(3,3)3:0/f(4,4)4:0/f(1,4)0:0/f(2,3)0:0/f(1,3)0:0", judgement{gap: "f of 3 3"}},
	{"1 1 1 1 1;0>1:0;1>2:0;2>3:0;3>4:0/f(4,3)0:0/f(3,4)0:0", judgement{gap: "f of 0 0"}},
	{"1 1 1 1 1;3>4:0/f(4,3)0:0/f(3,4)0:0", judgement{gap: "f of 3 3"}},
	{"1 1 1 1 1;3>4:0/k(4,4)3:0/k(4,3)4:0", judgement{gap: "k of 3 3"}},
	{"1 1 1 1 1;3>4:0/k(4,4)3:0/k(4,3)4:0/k(3,3)3:0", judgement{gap: "k of 4 3"}},

	// Functions that give the same as those above them, and others.
	{"2 3;0>1:0 1/f(0)0:1 0/f(1)1:1 0 2/g(0,0)0:0 0 0 1/g(1,1)1:0 0 0 0 1 0 0 0 2", judgement{}},
	{"2 2;0>1:0 1/f(0)0:0 1/f(1)1:0 1", judgement{}},
	{"2 2;0>1:0 1/f(0)0:0 1/f(1)1:1 1", judgement{clash: "0 and 1 at 0"}},
	{"2 2;0>1:0 1/f(1)1:1 1/f(0)0:0 1", judgement{clash: "1 and 0 at 0"}},
	{"2 2;0>1:0 1/f(0)0:0 1/f(1)1:1 0", judgement{clash: "0 and 1 at 0"}},
	{"2 2;0>1:0 1/f(0)0:0 1/f(1)0:0 0", judgement{clash: "0 and 1 at 1"}},
	// Both kinds of values are coerced.
	{"2 2;0>1:1 0/f(0)0:0 1/f(1)1:0 1", judgement{}},
	{"2 2;0>1:1 0/f(0)0:0 1/f(1)0:1 0", judgement{}},
	{"2 2;0>1:1 0/f(0)0:0 1/f(1)0:0 1", judgement{clash: "0 and 1 at 0"}},
	{"2 2;0>1:1 0/f(0)1:0 1/f(1)1:1 0", judgement{}},
	{"2 4;0>1:3 1/f(0)0:1 0/f(1)1:0 3 0 1", judgement{}},
	{"2 4;0>1:3 1/f(0)0:1 0/f(1)1:0 1 0 1", judgement{clash: "0 and 1 at 1"}},
	// A coercion makes different results the same; values to which nothing is coerced do not count.
	{"2 1;0>1:0 0/f(0)0:0 1/f(1)1:0", judgement{}},
	{"2 1;0>1:0 0/f(0)0:0 1/f(1)0:0", judgement{clash: "0 and 1 at 1"}},
	{"1 3;0>1:1/f(0)1:2/f(1)1:0 2 0", judgement{}},
	{"1 3;0>1:1/f(0)1:0/f(1)1:0 2 0", judgement{clash: "0 and 1 at 0"}},
	// Only the last values clash, or only some in between, or several.
	{"4 4;0>1:0 1 2 3/f(0)0:0 1 2 3/f(1)1:0 1 2 0", judgement{clash: "0 and 1 at 3"}},
	{"4 4;0>1:0 1 2 3/f(0)0:0 1 2 3/f(1)1:0 1 3 2", judgement{clash: "0 and 1 at 2"}},
	{"2 2;0>1:0 1/f(0,0)0:0 1 1 0/f(1,1)1:0 1 1 1", judgement{clash: "0 and 1 at 1 1"}},
	{"2 2;0>1:0 1/f(0,0)0:0 1 1 0/f(1,1)1:0 0 0 1", judgement{clash: "0 and 1 at 0 1"}},
	{"2 2;0>1:0 1/f(0,0)0:0 1 1 0/f(1,1)1:0 1 0 1", judgement{clash: "0 and 1 at 1 0"}},
	{"2 3;0>1:2 0/f(0,1)0:0 1 0 1 0 1/f(1,1)1:0 2 0 0 1 2 2 0 2", judgement{}},
	{"2 3;0>1:2 0/f(0,1)0:0 1 0 1 0 1/f(1,1)1:0 2 1 0 1 2 2 0 2", judgement{clash: "0 and 1 at 1 2"}},
	{"2 3;0>1:2 0/f(0,1)0:0 1 0 1 0 1/f(1,1)1:2 0 0 0 1 2 2 0 0", judgement{clash: "0 and 1 at 0 2"}},
	{"2 3;0>1:2 0/f(0,1)0:0 1 0 1 0 1/f(1,1)1:0 2 0 0 1 2 2 0 2/f(0,0)0:0 0 1 1", judgement{}},
	{"2 3;0>1:2 0/f(0,1)0:0 1 0 1 0 1/f(1,1)1:0 2 0 0 1 2 2 0 2/f(0,0)0:0 0 0 1", judgement{clash: "2 and 0 at 1 0"}},
	{"2 3;0>1:2 0/f(0,1)0:0 1 0 1 0 1/f(1,1)1:0 2 0 0 1 2 2 0 2/f(0,0)1:2 2 0 1", judgement{gap: "f of 0 0", clash: "2 and 1 at 1 1"}},
	// Not compared: results that can't be coerced, functions of which neither is below the other one, other names, and
	// other numbers of arguments.
	{"2 2;0>1:0 1/f(0)1:0 1/f(1)0:1 0", judgement{gap: "f of 0"}},
	{"2 2 2;0>1:0 1/f(0)0:0 1/f(1)2:1 0", judgement{gap: "f of 0"}},
	{"2 2/f(0)0:0 1/f(1)0:1 0", judgement{}},
	{"2 2;0>1:0 1/f(0,1)0:0 0 0 0/f(1,0)0:1 1 1 1", judgement{gap: "f of 0 0"}},
	{"2 2;0>1:0 1/f(0)0:0 1/g(1)1:1 0", judgement{}},
	{"2/f(0)0:0 0/f(0,0)0:1 1 1 1/f()0:1", judgement{}},
	// Of several clashes the one of the first function, and of this the one with the first other one.
	{"3 3 3;0>1:0 1 2;1>2:0 1 2/f(0)0:0 0 0/f(1)1:1 1 1/f(2)2:2 2 2", judgement{clash: "0 and 1 at 0"}},
	{"3 3 3;0>1:0 1 2;1>2:0 1 2/f(0)0:0 0 0/f(1)1:0 0 0/f(2)2:2 2 2", judgement{clash: "0 and 2 at 0"}},
	{"3 3 3;0>1:0 1 2;1>2:0 1 2/f(0)0:0 0 0/f(2)2:0 0 2/f(1)1:0 0 1", judgement{clash: "0 and 1 at 2"}},
	{"3 3 3;0>1:0 1 2;1>2:0 1 2/f(2)2:2 2 2/f(1)1:1 1 1/f(0)0:0 0 0", judgement{clash: "1 and 0 at 0"}},
	{"3 3 3;0>1:0 1 2;1>2:0 1 2/f(2)2:1 1 1/f(1)1:1 1 1/f(0)0:0 0 0", judgement{clash: "2 and 0 at 0"}},
	{"3 3 3;0>1:0 1 2;1>2:0 1 2/f(1)1:1 1 1/f(0)0:0 0 0/f(2)2:2 2 2", judgement{clash: "0 and 2 at 0"}},
	{"3 3 3;0>1:0 1 2;1>2:0 1 2/f(1)1:0 0 1/f(0)0:0 1 0/f(2)2:0 0 1", judgement{clash: "1 and 0 at 1"}},
	{"2 2;0>1:0 1/k(1)1:0 0/k(0)0:1 1/f(0)0:0 1/f(1)1:0 0", judgement{clash: "1 and 0 at 0"}},
	{"2 2;0>1:0 1/f(0,0)0:0 0 0 1/f(1,1)1:0 0 0 0/f(0)0:1 0/f(1)0:0 1", judgement{clash: "0 and 1 at 1 1"}},
	// A clash of two functions, with both of which a third one, below them, agrees.
	{"2 2 2;0>1:0 0;0>2:0 0;1>2:0 1/f(0)0:0 0/f(1)1:0 1/f(2)2:0 0", judgement{clash: "1 and 2 at 1"}},
	// Two functions that give different results, but can't be compared, and with a third one below both.
	{"2 2 2;0>1:0 1;0>2:0 1/f(1)0:0 0/f(2)0:1 1", judgement{gap: "f of 0"}},
	{"2 2 2;0>1:0 1;0>2:0 1/f(1)0:0 0/f(2)0:1 1/f(0)0:0 1", judgement{clash: "2 and 0 at 1"}},

	// Types that are not coherent: values are coerced by the first one of the shortest ways.
	{"2 2 2;0>1:0 1;1>2:0 1;0>2:1 0/f(0)0:0 0/f(2)2:1 1", judgement{doubt: true}},
	{"2 2 2;0>1:0 1;1>2:0 1;0>2:1 0/f(0)0:0 0/f(2)2:0 0", judgement{doubt: true, clash: "0 and 1 at 0"}},
	{"2 2 2;0>1:0 1;1>2:0 1;0>2:1 0/f(0)1:0 1/f(2)1:1 0", judgement{doubt: true}},
	{"2 2 2;0>1:0 1;1>2:0 1;0>2:1 0/f(0)1:0 1/f(2)1:0 1", judgement{doubt: true, clash: "0 and 1 at 0"}},
	{"2 2;0>1:0 1;0>1:1 0/f(0)0:0 0/f(1)1:0 0", judgement{doubt: true}},
	{"2 2;0>1:0 1;0>1:1 0/f(0)0:0 0/f(1)1:1 1", judgement{doubt: true, clash: "0 and 1 at 0"}},
	{"2 2;0>1:0 1;0>1:1 0/f(0)1:1 0/f(1)1:1 0", judgement{doubt: true}},
	{"2 2;0>1:0 1;0>1:1 0/f(1)0:1 0/f(0)1:0 1", judgement{doubt: true, gap: "f of 0"}},
	// All at once, and each two of them.
	{"2 2;0>1:0 1;0>1:1 0/f(0)0:0 1/f(1)1:1 1/g(0,1)0:0 0 0 0/g(1,0)0:0 0 0 0", judgement{true, "g of 0 0", "0 and 1 at 0"}},
	{"2 2;0>1:0 1/f(0)0:0 1/f(1)1:1 1/g(0,1)0:0 0 0 0/g(1,0)0:0 0 0 0", judgement{false, "g of 0 0", "0 and 1 at 0"}},
	{"2 2;0>1:0 1;0>1:1 0/f(0)0:0 1/f(1)1:0 1/g(0,1)0:0 0 0 0/g(1,0)0:0 0 0 0", judgement{true, "g of 0 0", ""}},
	{"2 2;0>1:0 1;0>1:1 0/f(0)0:0 1/f(1)1:1 1/g(0,1)0:0 0 0 0/g(0,0)0:0 0 0 0", judgement{true, "", "0 and 1 at 0"}},
	{"2 2;0>1:0 1/f(0)0:0 1/f(1)1:0 1/g(0,1)0:0 0 0 0/g(0,0)0:0 0 0 0", judgement{}},
	{"2 2;0>1:0 1/f(0,1)0:0 1 0 1/f(1,0)1:0 0 1 1/f(1,1)1:1 1 1 1", judgement{gap: "f of 0 0", clash: "0 and 2 at 0 0"}},
}

func TestJudgedTexts(t *testing.T) {
	for _, c := range judgedTexts {
		s := systemOf(t, c.text)
		checkJudged(t, s, c.want)
		if want := judgedByDefinition(s); want != c.want {
			t.Errorf("%s: by the definition it is %v, not %v", c.text, want, c.want)
		}
	}
}

// TestJudgedTextsKeepPromise checks promise 10 in good systems for all terms without calls within calls; in others it is
// broken for one of these.
func TestJudgedTextsKeepPromise(t *testing.T) {
	for _, c := range judgedTexts {
		s := systemOf(t, c.text)
		if term, broken := brokenFlatTerm(s); broken == impl.IsGood(s) {
			t.Errorf("%s: IsGood returns %v, and %v for %q", c.text, impl.IsGood(s), broken, term)
		}
	}
}

func TestJudgedGivenSystems(t *testing.T) {
	for _, text := range append(slices.Clone(goodSystems), mixed) {
		s := systemOf(t, text)
		checkJudged(t, s, judgedByDefinition(s))
	}
	checkJudged(t, systemOf(t, mixed), judgement{true, "g of 0 0", "0 and 1 at 0"})
	checkJudged(t, systemOf(t, eightFunctions), judgement{false, "f of 0 0", "4 and 5 at 0"})
}

// TestJudgedSmallSystems has all systems of two functions of one name and of one argument, of the one type and of the
// other, with two types of two values and none or one coercion.
func TestJudgedSmallSystems(t *testing.T) {
	seen := map[string]int{}
	for _, coercion := range []string{"", ";0>1:0 0", ";0>1:0 1", ";0>1:1 0", ";0>1:1 1"} {
		for _, first := range rows(3, 0, 1) {
			for _, second := range rows(3, 0, 1) {
				lower := functionText(function("f", []int{0}, first[0], first[1:]...))
				upper := functionText(function("f", []int{1}, second[0], second[1:]...))
				for _, functions := range []string{"/" + lower + "/" + upper, "/" + upper + "/" + lower} {
					s := systemOf(t, "2 2"+coercion+functions)
					checkJudged(t, s, judgedByDefinition(s))
					if term, broken := brokenFlatTerm(s); broken == impl.IsGood(s) {
						t.Errorf("%s: IsGood returns %v, and %v for %q", impl.FormatSystem(s), impl.IsGood(s), broken, term)
					}
					seen[impl.FaultsOf(s)]++
				}
			}
		}
	}
	// Without a coercion all 128 are good. With one, a fourth of them leaves a gap, and does not clash. Of the others, if it
	// keeps values apart, only one in four tables of the upper function agrees with the lower one. If it does not, this is
	// so too where the results are of the same type, but where they are coerced, one in two agrees.
	if seen[""] != 128+2*24+2*32 || seen["g"] != 4*32 || seen["c"] != 2*72+2*64 {
		t.Errorf("there are %v", seen)
	}
}

// TestJudgedManySystems compares what is told of pseudo-random systems of a fixed seed with the definition.
func TestJudgedManySystems(t *testing.T) {
	source := rand.New(rand.NewSource(10))
	seen := map[string]int{}
	for n := range 600 {
		s := impl.System{Types: someTypes(source, n%7)}
		for range 1 + n%16 {
			f := someFunction(source, s.Types)
			f.Name = string(rune('f' + source.Intn(1+n%4)))
			if more, ok := impl.WithFunction(s, f); ok {
				s = more
			}
		}
		want := judgedByDefinition(s)
		checkJudged(t, s, want)
		seen["-"+want.faults()]++
		if want.gap != "" {
			seen["gap "+strconv.Itoa(len(strings.Fields(want.gap))-2)]++
		}
		if want.clash != "" && !strings.HasSuffix(want.clash, " 0") {
			seen["clash not at 0"]++
		}
		if t.Failed() {
			t.FailNow()
		}
	}
	for _, kind := range []string{"-", "-d", "-g", "-c", "-dg", "-dc", "-gc", "-dgc", "gap 1", "gap 2", "clash not at 0"} {
		t.Log(kind, seen[kind])
		if seen[kind] < 10 {
			t.Errorf("%s: %d systems are too few", kind, seen[kind])
		}
	}
}

// TestFaultsBreakPromise checks in pseudo-random systems of a fixed seed that what is told as a fault is one: a value that
// two ways make different ones, a call that is not made explicit or not with the least type, and a call with two values.
func TestFaultsBreakPromise(t *testing.T) {
	source := rand.New(rand.NewSource(11))
	seen := map[string]int{}
	for n := range 300 {
		s := someSystem(source, n%6, 1+n%3)
		if doubt, ok := impl.DoubtOf(s.Types); ok {
			seen["doubt"]++
			if term := (tree{kind: doubt.From, value: doubt.Value}).text(); !impl.IsAmbiguous(s, term) {
				t.Errorf("%s: %q is not ambiguous", impl.FormatSystem(s), term)
			}
		}
		if gap, ok := impl.GapOf(s); ok {
			n := tree{name: gap.Name}
			for _, kind := range gap.Kinds {
				n.parts = append(n.parts, tree{kind: kind})
			}
			_, kind, why := impl.Elaborate(s, n.text())
			seen["gap "+why]++
			if kinds := impl.KindsOf(s, n.text()); len(kinds) == 0 || why == "ok" && slices.Equal(kinds, impl.AboveOf(s.Types, kind)) {
				t.Errorf("%s: %q has the type %d, and types %v", impl.FormatSystem(s), n.text(), kind, kinds)
			}
		}
		if clash, ok := impl.ClashOf(s); ok {
			f, other := s.Functions[clash.First], s.Functions[clash.Second]
			n := tree{name: f.Name}
			for place, value := range clash.Values {
				n.parts = append(n.parts, tree{kind: f.Args[place], value: value})
			}
			seen["clash"]++
			count := 0
			for _, has := range valuesOfAll(s, n)[other.Result] {
				if has {
					count++
				}
			}
			if count < 2 || f.Name != other.Name {
				t.Errorf("%s: %q has %d values with the type %d", impl.FormatSystem(s), n.text(), count, other.Result)
			}
		}
		if t.Failed() {
			t.FailNow()
		}
	}
	for _, kind := range []string{"doubt", "gap ok", "gap many", "clash"} {
		t.Log(kind, seen[kind])
		if seen[kind] < 20 {
			t.Errorf("%s: %d systems are too few", kind, seen[kind])
		}
	}
}

// givenGood are good systems: without functions, with functions of one name for all types, on types side by side, and
// with results that are coerced.
var givenGood = []string{
	"1",
	"2 3;0>1:0 2",
	"2 3;0>1:0 1/f(0)0:1 0/f(1)1:1 0 2/g(0,0)0:0 0 0 1/g(1,1)1:0 0 0 0 1 0 0 0 2",
	"2 3;0>1:0 1/f(1)1:1 0 2/g(1,1)1:0 0 0 0 1 0 0 0 2/f(0)0:1 0",
	// The sum of numbers up to three, of their last bits and of their first ones, and of nothing.
	"4 2 2 1;0>1:0 1 0 1;0>2:0 0 1 1;1>3:0 0;2>3:0 0/f(0,0)0:0 1 2 3 1 2 3 0 2 3 0 1 3 0 1 2/f(1,1)1:0 1 1 0/f(3,3)3:0/g(0)0:3 2 1 0/g(1)1:1 0/g(2)2:1 0/g(3)3:0/h()0:3",
	// The greater one, up to a limit, of numbers and of larger ones, in all mixtures.
	"2 3 4;0>1:0 2;1>2:0 1 2/k(0,0)0:0 1 1 1/k(0,1)1:0 1 2 2 2 2/k(1,0)1:0 2 1 2 2 2/k(1,1)1:0 1 2 1 1 2 2 2 2/k(2,2)2:0 1 2 3 1 1 2 3 2 2 2 3 3 3 3 3/i(0)1:2 0/i(1)2:2 2 0/j()1:1",
	// Several ways that agree.
	"2 2 2 2 2;0>1:1 0;0>1:1 0;1>2:1 0;0>2:0 1;2>3:0 1;2>4:0 1;0>4:0 1/f(0)0:1 0/f(1)1:1 0/f(2)1:0 1/g(3)0:1 1/i(4)1:0 1/h(0,3)0:0 1 0 1/h(1,3)2:0 1 0 1",
	// So many that explicit terms of short terms are too many to be told.
	"3 3 3;0>1:1 2 0;0>1:1 2 0;0>1:1 2 0;1>2:2 0 1;1>2:2 0 1;1>2:2 0 1;0>2:0 1 2;0>2:0 1 2/f(0)0:1 2 0/f(1)1:1 2 0/f(2)2:1 2 0/g(2,2)2:0 1 2 1 2 0 2 0 1/g(1,2)2:2 0 1 0 1 2 1 2 0",
}

// TestGoodGivenSystems checks promise 10 in good systems, for all terms without calls within calls and for pseudo-random
// ones of a fixed seed.
func TestGoodGivenSystems(t *testing.T) {
	source := rand.New(rand.NewSource(12))
	many := 0
	for _, text := range givenGood {
		s := systemOf(t, text)
		checkJudged(t, s, judgement{})
		if want := judgedByDefinition(s); want != (judgement{}) {
			t.Errorf("%s: by the definition it is %v", text, want)
			continue
		}
		terms := flatTerms(s)
		for range 200 {
			n := someTree(source, 3+source.Intn(25))
			fit(source, s, &n)
			terms = append(terms, n)
		}
		for _, n := range terms {
			checkPromise(t, s, n)
			if _, ok := impl.AllMade(s, n.text(), len(s.Sizes)-1); !ok {
				many++
			}
		}
		if t.Failed() {
			t.FailNow()
		}
	}
	if many < 10 {
		t.Errorf("%d terms have too many explicit terms: too few", many)
	}
}

// someGoodSystem returns a pseudo-random system that is good by the definition, with as many functions as fit of those that
// were tried.
func someGoodSystem(source *rand.Rand, coercions int, names int) impl.System {
	s := impl.System{Types: someTypes(source, coercions)}
	for reachOf(s.Types).doubt {
		s.Types = someTypes(source, coercions)
	}
	for range 40 {
		f := someAgreeing(source, s, names)
		if more, ok := impl.WithFunction(s, f); ok && judgedByDefinition(more) == (judgement{}) {
			s = more
		}
	}
	return s
}

// someAgreeing returns a pseudo-random function whose results agree with the functions of a system, where they can.
func someAgreeing(source *rand.Rand, s impl.System, names int) impl.Function {
	r := reachOf(s.Types)
	f := someFunction(source, s.Types)
	f.Name = string(rune('f' + source.Intn(names)))
	for row, values := range valueRows(s, f) {
		first := source.Intn(s.Sizes[f.Result])
		for n := range s.Sizes[f.Result] {
			f.Table[row] = (first + n) % s.Sizes[f.Result]
			if agrees(s, r, f, row, values) {
				break
			}
		}
	}
	return f
}

// agrees reports whether the result of a function for values is consistent with all functions of a system.
func agrees(s impl.System, r reach, f impl.Function, row int, values []int) bool {
	for _, other := range s.Functions {
		if r.isBelow(f, other) && r.images[f.Result][other.Result] != nil && r.images[f.Result][other.Result][f.Table[row]] != r.resultFor(s, other, f.Args, values) {
			return false
		}
		if !r.isBelow(other, f) || r.images[other.Result][f.Result] == nil {
			continue
		}
		for _, below := range valueRows(s, other) {
			isRow := true
			for place, value := range below {
				isRow = isRow && r.images[other.Args[place]][f.Args[place]][value] == values[place]
			}
			if isRow && r.images[other.Result][f.Result][r.resultFor(s, other, other.Args, below)] != f.Table[row] {
				return false
			}
		}
	}
	return true
}

// TestGoodManySystems checks promise 10 for pseudo-random terms of a fixed seed in pseudo-random good systems.
func TestGoodManySystems(t *testing.T) {
	source := rand.New(rand.NewSource(13))
	seen := map[string]int{}
	for n := range 80 {
		s := someGoodSystem(source, 3+n%5, 1+n%2)
		checkJudged(t, s, judgement{})
		for _, f := range s.Functions {
			for _, other := range s.Functions {
				if reachOf(s.Types).isBelow(f, other) && !slices.Equal(f.Args, other.Args) {
					seen["below"]++
				}
			}
		}
		for range 80 {
			n := someTree(source, 3+source.Intn(25))
			fit(source, s, &n)
			checkPromise(t, s, n)
			_, kind, why := impl.Elaborate(s, n.text())
			seen[why]++
			if why == "ok" && n.size() > 3 {
				seen["large"]++
			}
			for to := range s.Sizes {
				if mades, _ := impl.AllMade(s, n.text(), to); why == "ok" && s.Sizes[kind] > 1 && len(mades) > 1 {
					seen["several"]++
				}
			}
			if t.Failed() {
				t.FailNow()
			}
		}
	}
	if seen["many"] > 0 {
		t.Errorf("for %d calls there are many functions", seen["many"])
	}
	for _, kind := range []string{"below", "ok", "none", "unknown", "large", "several"} {
		t.Log(kind, seen[kind])
		if seen[kind] < 50 {
			t.Errorf("%s: %d are too few", kind, seen[kind])
		}
	}
}

// TestGoodIsWhatKeepsPromise compares IsGood of pseudo-random systems of a fixed seed, of which some are good but for one
// result, with whether promise 10 holds for all terms without calls within calls.
func TestGoodIsWhatKeepsPromise(t *testing.T) {
	source := rand.New(rand.NewSource(14))
	seen := map[bool]int{}
	for n := range 30 {
		s := someGoodSystem(source, 2+n%4, 1+n%2)
		list := []impl.System{s}
		for range 3 {
			if len(s.Functions) > 0 {
				other := systemOf(t, impl.FormatSystem(s))
				f := other.Functions[source.Intn(len(s.Functions))]
				f.Table[source.Intn(len(f.Table))] = source.Intn(s.Sizes[f.Result])
				list = append(list, other)
			}
		}
		list = append(list, someSystem(source, 2+n%4, 1))
		for _, s := range list {
			term, broken := brokenFlatTerm(s)
			if impl.IsGood(s) == broken {
				t.Fatalf("%s: IsGood returns %v, and %v for %q", impl.FormatSystem(s), impl.IsGood(s), broken, term)
			}
			seen[broken]++
		}
	}
	t.Log(seen)
	if seen[true] < 20 || seen[false] < 20 {
		t.Errorf("there are too few systems of one sort: %v", seen)
	}
}

func TestInvalidSystemsAreNotGood(t *testing.T) {
	bad := badSystems()
	bad["zero value"] = impl.System{}
	bad["gap and clash"] = impl.System{Types: impl.Types{Sizes: []int{2, 2}, Coercions: []impl.Coercion{link(0, 1, 0, 1), link(0, 1, 1, 0)}}, Functions: []impl.Function{
		function("f", []int{0}, 0, 0, 0), function("f", []int{1}, 1, 1, 1), function("g", []int{0, 1}, 0, 0, 0, 0, 0), function("g", []int{1, 0}, 0, 0, 0, 0, 2),
	}}
	for reason, s := range bad {
		checkNotJudged(t, s)
		if t.Failed() {
			t.Fatal(reason)
		}
	}
}

func TestGoodKeepsMemory(t *testing.T) {
	texts := append(slices.Clone(goodSystems), givenGood...)
	for _, c := range judgedTexts {
		texts = append(texts, c.text)
	}
	for _, text := range texts {
		s := spareSystem(systemOf(t, text))
		arguments := systemCells(s)
		before, names := numbersAt(arguments), namesAt(s)
		numbers := [][]*int{arguments}
		var bytes [][]*byte
		for _, f := range s.Functions {
			bytes = append(bytes, byteCells(f.Name))
		}
		for range 2 {
			gap, _ := impl.GapOf(s)
			clash, _ := impl.ClashOf(s)
			numbers = append(numbers, numberCells(gap.Kinds), numberCells(clash.Values))
			bytes = append(bytes, byteCells(gap.Name))
			impl.IsRegular(s)
			impl.IsConsistent(s)
			impl.IsGood(s)
			bytes = append(bytes, byteCells(impl.FaultsOf(s)))
		}
		checkApart(t, numbers...)
		checkApart(t, bytes...)
		if after := numbersAt(arguments); !slices.Equal(before, after) || !slices.Equal(names, namesAt(s)) {
			t.Errorf("%s: the system was %v, %q and is %v, %q", text, before, names, after, namesAt(s))
		}
	}
}

// TestGoodKeepsNoState asks the same of systems between which others were asked about, and of one that has changed.
func TestGoodKeepsNoState(t *testing.T) {
	const text = "2 2;0>1:0 1;0>1:1 0/f(0)0:0 1/f(1)1:1 1/g(0,1)0:0 0 0 0/g(1,0)0:0 0 0 0"
	want := judgement{true, "g of 0 0", "0 and 1 at 0"}
	s, other := systemOf(t, text), systemOf(t, "2 2;0>1:0 1/f(0)0:0 1/f(1)1:0 1")
	for range 3 {
		checkJudged(t, s, want)
		checkJudged(t, other, judgement{})
		checkNotJudged(t, impl.System{})
		gap, _ := impl.GapOf(s)
		gap.Kinds[0], gap.Kinds[1] = -7, -7
		clash, _ := impl.ClashOf(s)
		clash.Values[0] = -7
	}
	s.Functions[1].Table[0] = 0
	checkJudged(t, s, judgement{true, "g of 0 0", ""})
	s.Functions[3].Name = "h"
	checkJudged(t, s, judgement{doubt: true})
	s.Coercions[1].Map[0], s.Coercions[1].Map[1] = 0, 1
	checkJudged(t, s, judgement{})
	s.Functions[3].Name = "g"
	checkJudged(t, s, judgement{gap: "g of 0 0"})
	s.Functions[0].Table[1] = 0
	checkJudged(t, s, judgement{gap: "g of 0 0", clash: "0 and 1 at 1"})
	s.Coercions = nil
	checkJudged(t, s, judgement{})
	s.Sizes[1] = 1
	checkNotJudged(t, s)
}

// TestGoodTogether asks about the same systems at the same time; it is for the race detector too.
func TestGoodTogether(t *testing.T) {
	s, good := systemOf(t, "2 2;0>1:0 1;0>1:1 0/f(0)0:0 1/f(1)1:1 1/g(0,1)0:0 0 0 0/g(1,0)0:0 0 0 0"), systemOf(t, givenGood[4])
	done := make(chan bool)
	for range 8 {
		go func() {
			gap, clash := gapText(impl.GapOf(s)), clashText(impl.ClashOf(s))
			done <- gap == "g of 0 0" && clash == "0 and 1 at 0" && impl.FaultsOf(s) == "dgc" && !impl.IsRegular(s) && !impl.IsConsistent(s) && !impl.IsGood(s) &&
				impl.FaultsOf(good) == "" && impl.IsRegular(good) && impl.IsConsistent(good) && impl.IsGood(good)
		}()
	}
	for range 8 {
		if !<-done {
			t.Error("answers differ")
		}
	}
}

// TestGoodLeavesNoGoroutines asks about coherence again and again, after which no goroutine is left.
func TestGoodLeavesNoGoroutines(t *testing.T) {
	s := systemOf(t, eightFunctions)
	before := runtime.NumGoroutine()
	for range 100 {
		impl.IsGood(s)
		impl.FaultsOf(s)
	}
	checkGoroutines(t, before)
}
