package tests

import (
	"math/rand"
	"regexp"
	"slices"
	"strconv"
	"strings"
	"testing"

	"loop.example/overloads/impl"
)

// madeAnswers are what the functions of the chapter return for an explicit term.
type madeAnswers struct {
	kind      int
	term      string
	coercions int
	functions []int
}

// checkMade compares what is returned for an explicit term with what is wanted.
func checkMade(t *testing.T, s impl.System, made string, want madeAnswers) {
	t.Helper()
	if kind, ok := impl.MadeType(s, made); kind != want.kind || !ok {
		t.Errorf("%s: MadeType(%q) returns %d, %v, not %d", impl.FormatSystem(s), made, kind, ok, want.kind)
	}
	if term, ok := impl.EraseMade(s, made); term != want.term || !ok {
		t.Errorf("%s: EraseMade(%q) returns %q, %v, not %q", impl.FormatSystem(s), made, term, ok, want.term)
	}
	if got := impl.CoercionsIn(s, made); got != want.coercions {
		t.Errorf("%s: CoercionsIn(%q) returns %d, not %d", impl.FormatSystem(s), made, got, want.coercions)
	}
	if list, ok := impl.FunctionsIn(s, made); !slices.Equal(list, want.functions) || !ok {
		t.Errorf("%s: FunctionsIn(%q) returns %v, %v, not %v", impl.FormatSystem(s), made, list, ok, want.functions)
	}
}

// checkNoMade checks that nothing is returned for a text.
func checkNoMade(t *testing.T, s impl.System, text string) {
	t.Helper()
	kind, hasKind := impl.MadeType(s, text)
	term, hasTerm := impl.EraseMade(s, text)
	list, hasList := impl.FunctionsIn(s, text)
	coercions := impl.CoercionsIn(s, text)
	if kind != -1 || term != "" || coercions != -1 || len(list) != 0 || hasKind || hasTerm || hasList {
		t.Errorf("%s: %.80q (%d bytes): MadeType %d, %v, EraseMade %.80q, %v, CoercionsIn %d, FunctionsIn %v, %v", impl.FormatSystem(s), text, len(text), kind, hasKind, term, hasTerm, coercions, list, hasList)
	}
}

// An outcome is what Elaborate returns.
type outcome struct {
	made string
	kind int
	why  string
}

// These are the outcomes for terms of which nothing is made.
var (
	toUnknown = outcome{"", -1, "unknown"}
	toNone    = outcome{"", -1, "none"}
	toMany    = outcome{"", -1, "many"}
)

// kindsAround are all types of a system, and numbers that are none.
func kindsAround(s impl.System) []int {
	list := []int{least, -2, -1}
	for kind := range len(s.Sizes) + 2 {
		list = append(list, kind)
	}
	return append(list, 10, 1<<32, most)
}

// atByDefinition tells what ElaborateAt returns for a type of a system that is valid, or any number, where Elaborate has
// an outcome.
func atByDefinition(s impl.System, from outcome, kind int) (string, string) {
	if from.why != "ok" {
		return "", from.why
	}
	way, ok := impl.ShortestWay(s.Types, from.kind, kind)
	if !ok {
		return "", "none"
	}
	return wrapped(from.made, way), "ok"
}

// wrapped tells by the definition what a way makes of an explicit term.
func wrapped(made string, way []int) string {
	for _, i := range way {
		made = "#" + strconv.Itoa(i) + "(" + made + ")"
	}
	return made
}

// checkElaborate compares what is made of a term, with each type, with what is wanted, and checks promise 7: that it is
// an explicit term, and of the term.
func checkElaborate(t *testing.T, s impl.System, term string, want outcome) {
	t.Helper()
	made, kind, why := impl.Elaborate(s, term)
	if got := (outcome{made, kind, why}); got != want {
		t.Errorf("%s: Elaborate(%.80q) returns %v, not %v", impl.FormatSystem(s), term, got, want)
	}
	if got := impl.TypeOf(s, term); got != want.kind {
		t.Errorf("%s: TypeOf(%.80q) returns %d, not %d", impl.FormatSystem(s), term, got, want.kind)
	}
	for _, kind := range kindsAround(s) {
		made, why := impl.ElaborateAt(s, term, kind)
		if wantMade, wantWhy := atByDefinition(s, want, kind); made != wantMade || why != wantWhy {
			t.Errorf("%s: ElaborateAt(%.80q, %d) returns %q, %q, not %q, %q", impl.FormatSystem(s), term, kind, made, why, wantMade, wantWhy)
		}
		if why == "ok" {
			checkIsOf(t, s, made, term, kind)
		}
	}
	if want.why == "ok" {
		checkIsOf(t, s, want.made, term, want.kind)
	}
}

// checkIsOf checks that a text is an explicit term of a term, and has a type.
func checkIsOf(t *testing.T, s impl.System, made string, term string, kind int) {
	t.Helper()
	var functions []int
	for _, part := range strings.Split(made, "@")[1:] {
		functions = append(functions, int(part[0]-'0'))
	}
	checkMade(t, s, made, madeAnswers{kind, term, strings.Count(made, "#"), functions})
}

// mixed is a system with functions of all sorts: f has several ones, of which that for 0 is below that for 1, and of k's
// neither is below the other one; h has no arguments; and i wants the last type, to which two ways lead.
const mixed = "2 3 2;0>1:0 1;1>2:1 0 1;0>1:1 2/f(0)0:1 0/f(1)2:1 0 0/g(1,1)1:0 0 0 0 1 0 0 0 2/h()0:1/k(0,1)0:0 1 0 1 0 1/k(1,0)0:0 1 0 1 0 1/i(2)2:0 1/g(2,2)0:1 1 0 0"

func TestElaborateOrdinary(t *testing.T) {
	s := systemOf(t, mixed)
	for term, want := range map[string]outcome{
		"0:0":                         {"0:0", 0, "ok"},
		"0:1":                         {"0:1", 0, "ok"},
		"1:2":                         {"1:2", 1, "ok"},
		"f(0:1)":                      {"@0(0:1)", 0, "ok"},
		"f(1:0)":                      {"@1(1:0)", 2, "ok"},
		"g(1:0,1:2)":                  {"@2(1:0,1:2)", 1, "ok"},
		"g(0:0,1:2)":                  {"@2(#0(0:0),1:2)", 1, "ok"},
		"g(1:2,0:0)":                  {"@2(1:2,#0(0:0))", 1, "ok"},
		"g(0:1,0:0)":                  {"@2(#0(0:1),#0(0:0))", 1, "ok"},
		"g(f(0:1),1:2)":               {"@2(#0(@0(0:1)),1:2)", 1, "ok"},
		"i(2:1)":                      {"@6(2:1)", 2, "ok"},
		"i(1:1)":                      {"@6(#1(1:1))", 2, "ok"},
		"i(0:1)":                      {"@6(#1(#0(0:1)))", 2, "ok"},
		"i(f(0:1))":                   {"@6(#1(#0(@0(0:1))))", 2, "ok"},
		"i(f(1:1))":                   {"@6(@1(1:1))", 2, "ok"},
		"k(1:2,0:0)":                  {"@5(1:2,0:0)", 0, "ok"},
		"k(0:0,1:2)":                  {"@4(0:0,1:2)", 0, "ok"},
		"f(f(f(0:0)))":                {"@0(@0(@0(0:0)))", 0, "ok"},
		"f(k(g(0:0,f(0:0)),f(0:1)))":  {"@0(@5(@2(#0(0:0),#0(@0(0:0))),@0(0:1)))", 0, "ok"},
		"g(f(1:0),1:1)":               {"@7(@1(1:0),#1(1:1))", 0, "ok"},
		"g(0:0,i(0:1))":               {"@7(#1(#0(0:0)),@6(#1(#0(0:1))))", 0, "ok"},
		"g(g(g(0:0,2:0),1:0),i(2:0))": {"@7(#1(@2(#0(@7(#1(#0(0:0)),2:0)),1:0)),@6(2:0))", 0, "ok"},
		"g(g(2:1,2:0),g(1:1,f(0:0)))": {"@2(#0(@7(2:1,2:0)),@2(1:1,#0(@0(0:0))))", 1, "ok"},
		"f(g(g(2:1,2:0),g(2:0,2:0)))": {"@1(@2(#0(@7(2:1,2:0)),#0(@7(2:0,2:0))))", 2, "ok"},
		"f(f(1:1))":                   toNone,
		"k(0:0,0:0)":                  toMany,
		"k(f(0:0),f(0:1))":            toMany,
		"f(k(0:0,0:0))":               toMany,
		"g(1:0,k(0:0,0:0))":           toMany,
		"k(1:0,1:0)":                  toNone,
		"f(2:0)":                      toNone,
		"f(1:0,1:0)":                  toNone,
		"g(1:0)":                      toNone,
		"j(0:0)":                      toNone,
		"i(j(0:0))":                   toNone,
		"g(1:0,j(0:0))":               toNone,
		"0:2":                         toUnknown,
		"i(0:2)":                      toUnknown,
		"g(1:0,0:2)":                  toUnknown,
		"k(g(0:0,0:0),f(k(1:2,1:2)))": toNone,
		"k(g(0:0,0:0),f(k(h(),h())))": toMany,
		"k(g(0:0,0:0),f(k(h(),0:9)))": toUnknown,
	} {
		checkElaborate(t, s, term, want)
	}
}

// TestElaborateExample is that of the document.
func TestElaborateExample(t *testing.T) {
	s := systemOf(t, "2 3;0>1:0 1/f(0)0:1 0/g(1,1)1:0 0 0 0 1 0 0 0 2")
	checkElaborate(t, s, "g(f(0:1),1:2)", outcome{"@1(#0(@0(0:1)),1:2)", 1, "ok"})
}

func TestElaborateWithoutArguments(t *testing.T) {
	s := systemOf(t, mixed)
	for term, want := range map[string]outcome{
		"h()":               {"@3()", 0, "ok"},
		"f(h())":            {"@0(@3())", 0, "ok"},
		"g(h(),h())":        {"@2(#0(@3()),#0(@3()))", 1, "ok"},
		"i(h())":            {"@6(#1(#0(@3())))", 2, "ok"},
		"k(h(),g(h(),h()))": {"@4(@3(),@2(#0(@3()),#0(@3())))", 0, "ok"},
		"k(h(),h())":        toMany,
		"f()":               toNone,
		"h(0:0)":            toNone,
		"h(h())":            toNone,
		"i(f())":            toNone,
	} {
		checkElaborate(t, s, term, want)
	}
	checkElaborate(t, systemOf(t, "1 2/f(0)0:0/f()1:1"), "f()", outcome{"@1()", 1, "ok"})
	checkElaborate(t, systemOf(t, "1 2/f(0)0:0/g()1:1"), "f()", toNone)
	checkElaborate(t, systemOf(t, "1"), "f()", toNone)
}

// TestElaborateWays has types between which there are several ways, of which the shortest one, and of these the first
// one, is taken.
func TestElaborateWays(t *testing.T) {
	for _, c := range []struct {
		text string
		term string
		want outcome
	}{
		// The first way in order is longer than the shortest one.
		{"1 1 1;0>1:0;1>2:0;0>2:0/f(2)0:0", "f(0:0)", outcome{"@0(#2(0:0))", 0, "ok"}},
		// Of several coercions the first one.
		{"1 1;0>1:0;0>1:0/f(1)0:0", "f(f(0:0))", outcome{"@0(#0(@0(#0(0:0))))", 0, "ok"}},
		// Of two ways of the same length the first one in order.
		{"1 1 1 1;2>3:0;0>2:0;0>1:0;1>3:0/f(3)0:0", "f(0:0)", outcome{"@0(#0(#1(0:0)))", 0, "ok"}},
		{"1 1 1 1;2>3:0;0>1:0;0>2:0;1>3:0/f(3)0:0", "f(0:0)", outcome{"@0(#3(#1(0:0)))", 0, "ok"}},
		// As many coercions as a shortest way can have, the first one innermost.
		{"1 1 1 1 1;3>4:0;1>2:0;0>1:0;2>3:0/f(4)1:0", "f(0:0)", outcome{"@0(#0(#3(#1(#2(0:0)))))", 1, "ok"}},
		{"1 1 1 1 1;3>4:0;1>2:0;0>1:0;2>3:0/f(4)1:0", "f(f(0:0))", outcome{"@0(#0(#3(#1(@0(#0(#3(#1(#2(0:0)))))))))", 1, "ok"}},
		// The last one of as many coercions as there may be.
		{"1 1 1;1>2:0;1>2:0;1>2:0;1>2:0;1>2:0;1>2:0;1>2:0;0>1:0/f(1)0:0", "f(0:0)", outcome{"@0(#7(0:0))", 0, "ok"}},
	} {
		checkElaborate(t, systemOf(t, c.text), c.term, c.want)
	}
}

// TestElaborateChoice has functions that are chosen by which are below others, not by what they cost or where they stand.
func TestElaborateChoice(t *testing.T) {
	for _, c := range []struct {
		text string
		term string
		want outcome
	}{
		{"1 1;0>1:0/f(1)1:0/f(0)0:0", "f(0:0)", outcome{"@1(0:0)", 0, "ok"}},
		{"1 1;0>1:0/f(1)1:0/f(0)0:0", "f(f(1:0))", outcome{"@0(@0(1:0))", 1, "ok"}},
		// The later one costs less, but is not below the first one.
		{"1 1 1 1;0>1:0;1>2:0;2>3:0;0>3:0/f(2)0:0/f(3)0:0", "f(0:0)", outcome{"@0(#1(#0(0:0)))", 0, "ok"}},
		// Neither is below the other one, though one costs less.
		{"1 1 1 1;0>1:0;0>2:0;2>3:0/f(3)0:0/f(1)0:0", "f(0:0)", toMany},
		// The type of an argument is that of what is made of it, even if it could have another one.
		{"1 1;0>1:0/f(0)1:0/g(0)0:0", "g(f(0:0))", toNone},
		{"1 1;0>1:0/f(0)1:0/f(1)0:0/g(0)0:0", "g(f(0:0))", toNone},
		// Functions of other names, and those with other numbers of arguments, do not matter.
		{"1 1;0>1:0/g(0)0:0/f()0:0/f(0,0)0:0/f(1)0:0", "f(0:0)", outcome{"@3(#0(0:0))", 0, "ok"}},
		// The last one of as many functions as there may be.
		{"1/f()0:0/g()0:0/h()0:0/i()0:0/j()0:0/k()0:0/f(0)0:0/g(0)0:0", "g(k())", outcome{"@7(@5())", 0, "ok"}},
	} {
		checkElaborate(t, systemOf(t, c.text), c.term, c.want)
	}
}

// TestElaborateReasons has terms of which nothing is made for several reasons.
func TestElaborateReasons(t *testing.T) {
	s := systemOf(t, mixed)
	const unknown, none, many = "0:9", "j()", "k(0:0,0:0)"
	reasons := map[string]outcome{unknown: toUnknown, none: toNone, many: toMany}
	for first, want := range reasons {
		checkElaborate(t, s, first, want)
		for _, name := range []string{"f", "g", "h", "i", "j", "k"} {
			// Arguments come before their call, for which there is another reason if it is one that no function fits.
			for _, term := range []string{name + "(" + first + ")", name + "(" + first + ",0:0)", name + "(0:0," + first + ")", name + "(h()," + first + ")"} {
				checkElaborate(t, s, term, want)
				checkElaborate(t, s, "f("+term+")", want)
				checkElaborate(t, s, "g("+term+",1:0)", want)
			}
			// The left one of two arguments comes first.
			for second, other := range reasons {
				checkElaborate(t, s, name+"("+first+","+second+")", want)
				checkElaborate(t, s, name+"(f("+first+"),"+second+")", want)
				checkElaborate(t, s, name+"("+first+",f("+second+"))", want)
				checkElaborate(t, s, name+"(f(0:0),g("+second+","+first+"))", other)
			}
		}
	}
	// What is left of a reason, but is none, does not matter; a text that is no term has no other reason.
	checkElaborate(t, s, "g(g(h(),f(1:0)),0:9)", toUnknown)
	checkElaborate(t, s, "g(g(h(),0:9),k(0:0,0:0))", toUnknown)
	checkElaborate(t, s, "g(g(h(),j()),0:9)", toNone)
	checkElaborate(t, s, "g(g(0:0,k(h(),h())),0:9)", toMany)
	checkElaborate(t, s, "g(k(0:0,0:0),j()", toUnknown)
	checkElaborate(t, s, "k(0:0,0:0))", toUnknown)
	checkElaborate(t, s, "j(),", toUnknown)
}

// TestElaborateUnknownLiterals has all literals, of which only those whose value is one of its type are made explicit.
func TestElaborateUnknownLiterals(t *testing.T) {
	for _, text := range []string{"1/i(0)0:0", "4 3 2 1 4/i(0)0:0 1 2 3/i(1)0:0 1 2/i(2)0:0 1/i(3)0:0/i(4)0:0 1 2 3", "2 3;0>1:0 1/i(1)1:0 1 2"} {
		s := systemOf(t, text)
		for kind := range 10 {
			for value := range 10 {
				literal := strconv.Itoa(kind) + ":" + strconv.Itoa(value)
				if kind < len(s.Sizes) && value < s.Sizes[kind] {
					checkElaborate(t, s, literal, outcome{literal, kind, "ok"})
					checkMade(t, s, literal, madeAnswers{kind: kind, term: literal})
					if impl.TypeOf(s, "i("+literal+")") < 0 {
						t.Errorf("%s: nothing is made of i(%s)", text, literal)
					}
					continue
				}
				checkElaborate(t, s, literal, toUnknown)
				checkNoMade(t, s, literal)
				checkElaborate(t, s, "i("+literal+")", toUnknown)
				checkElaborate(t, s, "j("+literal+")", toUnknown)
				for i := range s.Functions {
					checkNoMade(t, s, "@"+strconv.Itoa(i)+"("+literal+")")
				}
				checkNoMade(t, s, "#0("+literal+")")
			}
		}
	}
}

// TestElaborateTextsThatAreNoTerms has texts that are no terms, among them explicit terms.
func TestElaborateTextsThatAreNoTerms(t *testing.T) {
	s := systemOf(t, mixed)
	for _, text := range []string{
		"", " ", "x", "0", "0:", ":0", "00:0", "0:0 ", " 0:0", "0:0\n", "0:00", "-0:0", "f", "f(", "f)", "f(0:0", "f(0:0))", "f(0:0,)", "f(,)", "f(0:0,0:0,0:0)", "e(0:0)", "l(0:0)", "F(0:0)", "(0:0)",
		"@0(0:1)", "#0(0:1)", "@3()", "f(@3())", "f(#0(0:1))", "@2(#0(@0(0:1)),1:2)", "\x00", "0:0\x00", "\xff", "ｆ(0:0)", strings.Repeat("f(", 1000000), strings.Repeat("0:0", 100000),
	} {
		checkElaborate(t, s, text, toUnknown)
	}
	for _, term := range []string{"0:1", "h()", "f(0:1)", "g(f(0:1),1:2)", "k(h(),g(h(),h()))", "j(0:9)", "k(0:0,0:0)"} {
		for i := range len(term) {
			checkElaborate(t, s, term[:i], toUnknown)
			checkElaborate(t, s, term[:i]+"\x00"+term[i:], toUnknown)
		}
		for _, more := range []string{")", "(", ",", " ", "0", term} {
			checkElaborate(t, s, term+more, toUnknown)
		}
	}
	// Terms of as many bytes as there may be, and of one more.
	for _, term := range []string{strings.Repeat("f(", 19) + "h()" + strings.Repeat(")", 19), strings.Repeat("f(", 19) + "0:0" + strings.Repeat(")", 19)} {
		if kind := impl.TypeOf(s, term); len(term) != impl.MaxTerm || kind != 0 {
			t.Errorf("the type of %q (%d bytes) is %d", term, len(term), kind)
		}
		checkElaborate(t, s, "f("+term+")", toUnknown)
		checkElaborate(t, s, term+" ", toUnknown)
	}
}

// TestElaborateKindsOutOfRange has numbers that are no types of a system, and types to which no way leads.
func TestElaborateKindsOutOfRange(t *testing.T) {
	s := systemOf(t, "2 3 2;0>1:0 1/f(0)0:1 0/h()1:2/k(0,1)0:0 1 0 1 0 1/k(1,0)0:0 1 0 1 0 1")
	for _, kind := range []int{-1, -2, 3, 4, 5, 10, 1 << 32, most, least, least + 1} {
		for term, want := range map[string]string{"f(0:1)": "none", "0:0": "none", "2:1": "none", "h()": "none", "f(1:0)": "none", "k(0:0,0:0)": "many", "0:2": "unknown", "x": "unknown", "": "unknown"} {
			if made, why := impl.ElaborateAt(s, term, kind); made != "" || why != want {
				t.Errorf("ElaborateAt(%q, %d) returns %q, %q, not %q", term, kind, made, why, want)
			}
		}
	}
	for _, c := range []struct {
		term string
		kind int
		made string
		why  string
	}{
		{"f(0:1)", 0, "@0(0:1)", "ok"}, {"f(0:1)", 1, "#0(@0(0:1))", "ok"}, {"f(0:1)", 2, "", "none"},
		{"h()", 1, "@1()", "ok"}, {"h()", 0, "", "none"}, {"h()", 2, "", "none"},
		{"2:1", 2, "2:1", "ok"}, {"2:1", 1, "", "none"}, {"2:1", 0, "", "none"},
		{"0:1", 0, "0:1", "ok"}, {"0:1", 1, "#0(0:1)", "ok"}, {"0:1", 2, "", "none"},
		// A reason of Elaborate comes before that there is no way.
		{"k(0:0,0:0)", 0, "", "many"}, {"k(0:0,0:0)", 2, "", "many"}, {"2:2", 2, "", "unknown"}, {"2:2", 0, "", "unknown"}, {"f(h())", 0, "", "none"},
	} {
		if made, why := impl.ElaborateAt(s, c.term, c.kind); made != c.made || why != c.why {
			t.Errorf("ElaborateAt(%q, %d) returns %q, %q, not %q, %q", c.term, c.kind, made, why, c.made, c.why)
		}
	}
}

// TestElaborateLongest has the terms of which the longest explicit terms are made, which are as long as these may be: a
// literal or a call of at least three bytes is wrapped in at most four coercions, of four bytes each.
func TestElaborateLongest(t *testing.T) {
	if impl.MaxMade != 400 {
		t.Errorf("MaxMade is %d", impl.MaxMade)
	}
	s := systemOf(t, "1 1 1 1 1;0>1:0;1>2:0;2>3:0;3>4:0/f(4)0:0/k()0:0/g(4,4)0:0")
	term, want := "k()", "@1()"
	for range 19 {
		term, want = "f("+term+")", "@0(#3(#2(#1(#0("+want+")))))"
	}
	if len(term) != impl.MaxTerm || len(want) != 384 {
		t.Errorf("%d bytes are to be made of %d", len(want), len(term))
	}
	checkElaborate(t, s, term, outcome{want, 0, "ok"})
	made, why := impl.ElaborateAt(s, term, 4)
	if made != "#3(#2(#1(#0("+want+"))))" || len(made) != impl.MaxMade || why != "ok" {
		t.Errorf("ElaborateAt(%q, 4) returns %q (%d bytes), %q", term, made, len(made), why)
	}
	wide := "g(k(),k())"
	for range 6 {
		wide = "g(" + wide + ",k())"
	}
	if _, kind, why := impl.Elaborate(s, wide); kind != 0 || why != "ok" {
		t.Errorf("Elaborate(%q) returns %d, %q", wide, kind, why)
	}
}

func TestMadeOrdinary(t *testing.T) {
	s := systemOf(t, mixed)
	for made, want := range map[string]madeAnswers{
		"0:1":                  {0, "0:1", 0, nil},
		"1:2":                  {1, "1:2", 0, nil},
		"2:0":                  {2, "2:0", 0, nil},
		"#0(0:1)":              {1, "0:1", 1, nil},
		"#2(0:1)":              {1, "0:1", 1, nil},
		"#1(1:2)":              {2, "1:2", 1, nil},
		"#1(#0(0:1))":          {2, "0:1", 2, nil},
		"#1(#2(0:1))":          {2, "0:1", 2, nil},
		"@3()":                 {0, "h()", 0, []int{3}},
		"#0(@3())":             {1, "h()", 1, []int{3}},
		"@0(0:1)":              {0, "f(0:1)", 0, []int{0}},
		"@1(1:0)":              {2, "f(1:0)", 0, []int{1}},
		"@1(#0(0:1))":          {2, "f(0:1)", 1, []int{1}},
		"@1(#2(0:1))":          {2, "f(0:1)", 1, []int{1}},
		"@2(#0(@0(0:1)),1:2)":  {1, "g(f(0:1),1:2)", 1, []int{2, 0}},
		"@4(0:0,#2(0:0))":      {0, "k(0:0,0:0)", 1, []int{4}},
		"@5(#0(0:0),0:0)":      {0, "k(0:0,0:0)", 1, []int{5}},
		"@6(#1(#0(@0(@3()))))": {2, "i(f(h()))", 2, []int{6, 0, 3}},
		"@7(@6(2:0),@1(1:2))":  {0, "g(i(2:0),f(1:2))", 0, []int{7, 6, 1}},
		"@7(@1(1:2),@6(2:0))":  {0, "g(f(1:2),i(2:0))", 0, []int{7, 1, 6}},
		"#1(@2(#2(@7(2:0,@6(2:1))),#0(@4(@0(@3()),@2(1:0,1:0)))))": {2, "g(g(2:0,i(2:1)),k(f(h()),g(1:0,1:0)))", 3, []int{2, 7, 6, 4, 0, 3, 2}},
	} {
		checkMade(t, s, made, want)
	}
}

// textsOfNoMade are texts that are no explicit terms in the system mixed.
func textsOfNoMade() []string {
	return []string{
		// No text, or none of an explicit term.
		"", " ", "x", "0", ":", "0:", ":0", "00:0", "0:00", "0:0 ", " 0:0", "0:0\n", "-0:0", "0:-0", "0;0", "(0:0)", "()", ",", "0:0,0:0", "0:00:0",
		// Terms that are not explicit.
		"h()", "f(0:0)", "f(@3())", "@0(h())", "#0(h())", "@0(f(0:0))",
		// No value of the type, or no type.
		"0:2", "1:3", "2:2", "3:0", "9:0", "0:9", "#0(0:2)", "@0(0:2)", "@2(1:0,1:3)", "@2(1:3,1:0)",
		// No index, or no such coercion or function.
		"#", "@", "#(0:0)", "@(0:0)", "@()", "#3(0:0)", "#9(0:0)", "@8()", "@9()", "@8(0:0)", "#00(0:0)", "#-1(0:0)", "#+0(0:0)", "#0 (0:0)", "# 0(0:0)", "#10(0:0)", "@03()", "@-1()", "@3 ()", "@ 3()", "#a(0:0)", "@f(0:0)", "#:(0:0)", "#/(0:0)",
		// No type with which it begins.
		"#0(1:0)", "#0(2:0)", "#1(0:0)", "#1(2:0)", "#0(#0(0:0))", "#1(#1(1:0))", "#0(#1(1:0))", "#0(@1(1:0))", "#1(@0(0:0))", "#0(@2(1:0,1:0))",
		// No types of the arguments.
		"@0(1:0)", "@1(0:0)", "@1(2:0)", "@2(0:0,1:0)", "@2(1:0,0:0)", "@2(0:0,0:0)", "@0(#0(0:0))", "@1(@0(0:0))", "@4(1:0,0:0)", "@5(0:0,1:0)", "@2(@3(),1:0)", "@2(1:0,@3())", "@6(1:0)", "@7(1:0,2:0)", "@7(2:0,1:0)",
		// No right number of arguments.
		"@0()", "@1()", "@3(0:0)", "@3(@3())", "@0(0:0,0:0)", "@2(1:0)", "@2()", "@2(1:0,1:0,1:0)", "#0()", "#0(0:0,0:0)", "#0(,)", "@0(0:0,)", "@0(,0:0)", "@3(,)", "@2(,)", "@2(1:0,)", "@2(,1:0)", "@2(1:0,,1:0)",
		// No signs between them, or other ones.
		"@2(1:01:0)", "@2(1:0 1:0)", "@2(1:0;1:0)", "@2(1:0, 1:0)", "@2(1:0 ,1:0)", "@2( 1:0,1:0)", "@2(1:0,1:0 )", "@3( )", "@3() ", " @3()", "#0 (0:0)", "#0( 0:0)", "#0(0:0 )", "#0[0:0]", "@0{0:0}", "#0(0:0]", "@00:0)", "#00:0)", "#00:0", "@3", "@3)", "@3(",
		// More behind it, or less.
		"#0(0:0", "@0(0:0", "#0(0:0))", "@0(0:0))", "@3())", "@3()@3()", "@3()()", "@3(),", "0:0@3()", "@3()0:0", "#0(0:0)#0(0:0)", "#0(@3()", "@2(1:0,1:0", "@2(1:0,", "@2(1:0", "@2(", "@2",
		// The signs the other way round, or other ones.
		"@#0(0:0)", "#@0(0:0)", "##0(0:0)", "@@3()", "0@()", "0#(0:0)", "$0(0:0)", "&3()", "!3()", "\x00", "@3()\x00", "@3(\x00)", "\xff", "#0(0:0)\xff", "＠3()", "＃0(0:0)", "@٣()", "#0（0:0）", "@2(1:0，1:0)",
		strings.Repeat("#0(", 1000000), strings.Repeat("@0(", 1000000), strings.Repeat("@2(1:0,", 100000), strings.Repeat("#", 1000000), strings.Repeat("@3()", 100000), strings.Repeat("0:0", 100), "0:0" + strings.Repeat(" ", 397),
	}
}

func TestTextsThatAreNotMade(t *testing.T) {
	s := systemOf(t, mixed)
	for _, text := range textsOfNoMade() {
		checkNoMade(t, s, text)
	}
}

// givenMades are explicit terms in the system mixed, of all sorts.
var givenMades = []string{"0:1", "@3()", "#0(0:1)", "#1(#2(@0(0:1)))", "@2(#0(@0(0:1)),1:2)", "@6(#1(#0(@0(@3()))))", "@7(@1(1:2),@6(2:0))", "@4(@0(@3()),@2(1:0,#2(0:0)))"}

// TestMadesThatEndEarly has the beginnings and ends of explicit terms, of which none is one.
func TestMadesThatEndEarly(t *testing.T) {
	s := systemOf(t, mixed)
	for _, made := range givenMades {
		for i := range len(made) {
			checkNoMade(t, s, made[:i])
		}
		checkNoMade(t, s, made[1:])
		for _, more := range []string{")", "(", ",", " ", "0", made, "," + made} {
			checkNoMade(t, s, made+more)
		}
	}
}

// madeSigns are all signs that an explicit term has.
var madeSigns = regexp.MustCompile(`^[0-9:#@(),]*$`)

// kindByDefinition tells the type of an explicit term, and whether a text is one: whether a letter for a type is left if
// one stands in place of each literal, coercion and call that has only such letters within it.
func kindByDefinition(s impl.System, text string) (int, bool) {
	if len(text) > 400 || !madeSigns.MatchString(text) {
		return -1, false
	}
	letter := func(kind int) string { return string(rune('A' + kind)) }
	var pairs []string
	for kind, size := range s.Sizes {
		for value := range size {
			pairs = append(pairs, strconv.Itoa(kind)+":"+strconv.Itoa(value), letter(kind))
		}
	}
	text = strings.NewReplacer(pairs...).Replace(text)
	pairs = nil
	for i, c := range s.Coercions {
		pairs = append(pairs, "#"+strconv.Itoa(i)+"("+letter(c.From)+")", letter(c.To))
	}
	for i, f := range s.Functions {
		var args []string
		for _, kind := range f.Args {
			args = append(args, letter(kind))
		}
		pairs = append(pairs, "@"+strconv.Itoa(i)+"("+strings.Join(args, ",")+")", letter(f.Result))
	}
	replacer := strings.NewReplacer(pairs...)
	for {
		shorter := replacer.Replace(text)
		if shorter == text {
			break
		}
		text = shorter
	}
	if len(text) != 1 || text < "A" || text > "E" {
		return -1, false
	}
	return int(text[0] - 'A'), true
}

// TestMadeEdits compares which edits of explicit terms are some, and of which type, with the definition.
func TestMadeEdits(t *testing.T) {
	for text, mades := range map[string][]string{
		mixed: givenMades,
		"4 3 2 1 4;0>1:0 1 2 2;0>1:2 1 0 0;3>4:3;0>4:3 2 1 0;1>2:0 1 0;2>3:0 0;0>3:0 0 0 0;1>4:1 2 3":     {"0:3", "#2(#5(#4(#1(0:2))))", "#7(#0(0:0))", "#3(0:1)"},
		"1/f()0:0/g()0:0/h()0:0/i()0:0/j()0:0/k()0:0/f(0)0:0/g(0)0:0":                                     {"@0()", "@5()", "@7(@6(@2()))"},
		"1 1/f(0,1)0:0/f(1,0)1:0/g(1)0:0/g(0)1:0":                                                         {"@0(0:0,1:0)", "@1(@3(@0(0:0,1:0)),@2(@1(1:0,0:0)))"},
		"1 1 1 1 1;0>1:0;1>2:0;2>3:0;3>4:0;0>2:0;1>3:0;2>4:0;0>4:0/f(4,4)4:0/f(4,3)3:0/f(3,4)0:0/f(0)4:0": {"@0(4:0,#3(@1(#7(0:0),3:0)))", "#6(#4(@2(#2(2:0),@3(0:0))))"},
	} {
		s := systemOf(t, text)
		for _, made := range mades {
			if _, ok := kindByDefinition(s, made); !ok {
				t.Fatalf("%s: %q is none by definition", text, made)
			}
			seen := map[bool]int{}
			for edit := range edits(made) {
				want, ok := kindByDefinition(s, edit)
				seen[ok]++
				if !ok {
					checkNoMade(t, s, edit)
				} else if kind, is := impl.MadeType(s, edit); kind != want || !is {
					t.Errorf("%s: MadeType(%q) returns %d, %v, not %d", text, edit, kind, is, want)
				}
			}
			// In the least one, each sign can be itself.
			if seen[true] < 3 || seen[false] < 1000 {
				t.Errorf("%s: of the edits of %q, %d are explicit terms, and %d are not", text, made, seen[true], seen[false])
			}
			if t.Failed() {
				t.FailNow()
			}
		}
	}
}

// TestMadeSignRows has all texts of few signs, each of which some explicit term has.
func TestMadeSignRows(t *testing.T) {
	s := systemOf(t, "1 1;0>1:0/h()0:0/f(0)0:0/g(1,0)1:0")
	texts, seen := []string{""}, 0
	for range 6 {
		var longer []string
		for _, text := range texts {
			for _, sign := range []string{"0:0", "1:0", "#0(", "@0(", "@1(", "@2(", ")", ","} {
				longer = append(longer, text+sign)
			}
		}
		texts = longer
		for _, text := range texts {
			want, ok := kindByDefinition(s, text)
			if kind, is := impl.MadeType(s, text); kind != want || is != ok {
				t.Fatalf("MadeType(%q) returns %d, %v, not %d, %v", text, kind, is, want, ok)
			}
			if ok {
				seen++
			}
		}
	}
	// Of one to six signs there are 2, 1, 2, 2, 3 and 3.
	if seen != 13 {
		t.Errorf("there are %d explicit terms", seen)
	}
}

// madeOfLength returns an explicit term of so many bytes, of which there are at least 30, and what it has, in types
// "2 3;0>1:0 1" with f(0)0, g(0,0)0 and f(1)0.
func madeOfLength(bytes int) (string, madeAnswers) {
	made, want := "0:1", madeAnswers{term: "0:1"}
	for (bytes-len(made))%4 != 0 {
		made, want.term, want.functions = "@1("+made+",@3())", "g("+want.term+",h())", append([]int{1}, append(want.functions, 3)...)
	}
	for len(made)+8 <= bytes {
		made, want.term, want.functions = "@2(#0("+made+"))", "f("+want.term+")", append([]int{2}, want.functions...)
		want.coercions++
	}
	if len(made) < bytes {
		made, want.term, want.functions = "@0("+made+")", "f("+want.term+")", append([]int{0}, want.functions...)
	}
	return made, want
}

// TestMadeLimits has explicit terms up to the limit, and texts that are longer than it.
func TestMadeLimits(t *testing.T) {
	s := systemOf(t, "2 3;0>1:0 1/f(0)0:1 0/g(0,0)0:0 0 0 1/f(1)0:0 0 1/h()0:1")
	for bytes := 30; bytes <= 460; bytes++ {
		made, want := madeOfLength(bytes)
		if len(made) != bytes {
			t.Fatalf("%q has %d bytes, not %d", made, len(made), bytes)
		}
		if bytes <= 400 {
			checkMade(t, s, made, want)
		} else {
			checkNoMade(t, s, made)
		}
	}
	// As many calls within each other, and as many coercions, as there may be; the terms are longer than terms can be.
	deep, term := "@3()", "h()"
	for range 99 {
		deep, term = "@0("+deep+")", "f("+term+")"
	}
	checkMade(t, s, deep, madeAnswers{0, term, 0, append(slices.Repeat([]int{0}, 99), 3)})
	if impl.TermValid(term) || len(deep) != impl.MaxMade {
		t.Errorf("%q (%d bytes) is made of a term", deep, len(deep))
	}
	checkNoMade(t, s, "@0("+deep+")")
	checkNoMade(t, s, deep+" ")
	checkNoMade(t, s, deep+")")
	checkNoMade(t, s, strings.Repeat("@0(", 100000)+"@3()"+strings.Repeat(")", 100000))
	// One byte more than the limit.
	checkNoMade(t, s, impl.WrapMade("@1(0:0,@1(0:0,@1(0:0,0:0)))", slices.Repeat([]int{0}, 93)))
}

func TestInvalidSystemsMakeNothing(t *testing.T) {
	bad := badSystems()
	bad["zero value"] = impl.System{}
	for reason, s := range bad {
		for _, text := range []string{"", "0:0", "0:1", "1:0", "f()", "f(0:0)", "k(0:0)", "j()", "f(0:0,0:0)", "0:9", "x"} {
			checkElaborate(t, s, text, toUnknown)
			checkNoMade(t, s, text)
		}
		for _, text := range []string{"@0()", "@1()", "@0(0:0)", "@0(1:0,0:0)", "#0(0:0)", "#0(@0())", "#1(1:0)"} {
			checkNoMade(t, s, text)
		}
		if t.Failed() {
			t.Fatal(reason)
		}
	}
}

func TestWrapMade(t *testing.T) {
	for _, c := range []struct {
		made string
		way  []int
		want string
	}{
		{"0:1", []int{0, 2}, "#2(#0(0:1))"},
		{"0:1", []int{2, 0}, "#0(#2(0:1))"},
		{"0:1", []int{7}, "#7(0:1)"},
		{"0:1", []int{0, 0}, "#0(#0(0:1))"},
		{"@1(#0(@0(0:1)),1:2)", []int{1, 2, 3, 4}, "#4(#3(#2(#1(@1(#0(@0(0:1)),1:2)))))"},
		{"0:1", nil, "0:1"},
		{"0:1", []int{}, "0:1"},
		{"0:1", spare(), "0:1"},
		{"0:1", spare(5), "#5(0:1)"},
		// The text need not be an explicit term, and the numbers need not be indices.
		{"x", nil, "x"},
		{"", nil, ""},
		{"", []int{3}, "#3()"},
		{"\x00\xff)(", []int{1}, "#1(\x00\xff)()"},
		{"0:1", []int{10, 123, 8}, "#8(#123(#10(0:1)))"},
		{"0:1", []int{-1}, "#-1(0:1)"},
		{"0:1", []int{most}, "#" + strconv.Itoa(most) + "(0:1)"},
		{"0:1", []int{least, -10}, "#-10(#" + strconv.Itoa(least) + "(0:1))"},
	} {
		if got := impl.WrapMade(c.made, c.way); got != c.want {
			t.Errorf("WrapMade(%q, %v) returns %q, not %q", c.made, c.way, got, c.want)
		}
	}
	// There is no limit.
	const many = 100000
	if got := impl.WrapMade("0:1", make([]int, many)); got != strings.Repeat("#0(", many)+"0:1"+strings.Repeat(")", many) {
		t.Errorf("WrapMade with %d coercions returns %d bytes", many, len(got))
	}
	long := strings.Repeat("x", 1000000)
	if got := impl.WrapMade(long, []int{1}); got != "#1("+long+")" {
		t.Errorf("WrapMade of %d bytes returns %d", len(long), len(got))
	}
}

// elaborateByDefinition tells what is made of a term in a valid system.
func elaborateByDefinition(s impl.System, n tree) outcome {
	if n.name == "" {
		if !impl.HasValue(s.Types, n.kind, n.value) {
			return toUnknown
		}
		return outcome{n.text(), n.kind, "ok"}
	}
	var parts []string
	var kinds []int
	for _, part := range n.parts {
		made := elaborateByDefinition(s, part)
		if made.why != "ok" {
			return made
		}
		parts, kinds = append(parts, made.made), append(kinds, made.kind)
	}
	i, word := impl.ResolveCall(s, n.name, kinds)
	if word != "one" {
		return outcome{"", -1, word}
	}
	for place, kind := range s.Functions[i].Args {
		way, _ := impl.ShortestWay(s.Types, kinds[place], kind)
		parts[place] = wrapped(parts[place], way)
	}
	return outcome{"@" + strconv.Itoa(i) + "(" + strings.Join(parts, ",") + ")", s.Functions[i].Result, "ok"}
}

// fit puts values of types of a system into a term, but for a few, and names of its functions.
func fit(source *rand.Rand, s impl.System, n *tree) {
	for _, place := range n.literals() {
		if place.name != "" {
			continue
		}
		place.kind = source.Intn(len(s.Sizes))
		place.value = source.Intn(s.Sizes[place.kind])
		if source.Intn(60) == 0 {
			place.value = source.Intn(10)
		}
	}
	if n.name != "" && len(s.Functions) > 0 {
		n.name = s.Functions[source.Intn(len(s.Functions))].Name
	}
	for i := range n.parts {
		fit(source, s, &n.parts[i])
	}
}

// someSystem returns a pseudo-random system with as many functions as it can be.
func someSystem(source *rand.Rand, coercions int, names int) impl.System {
	s := impl.System{Types: someTypes(source, coercions)}
	for range 20 {
		f := someFunction(source, s.Types)
		f.Name = string(rune('f' + source.Intn(names)))
		if more, ok := impl.WithFunction(s, f); ok {
			s = more
		}
	}
	return s
}

// TestElaborateManySystems makes pseudo-random terms of a fixed seed explicit in pseudo-random systems.
func TestElaborateManySystems(t *testing.T) {
	source := rand.New(rand.NewSource(7))
	seen := map[string]int{}
	for n := range 120 {
		s := someSystem(source, 4+n%5, 1+n%4)
		for range 60 {
			term := someTree(source, 3+source.Intn(25))
			fit(source, s, &term)
			want := elaborateByDefinition(s, term)
			checkElaborate(t, s, term.text(), want)
			seen[want.why]++
			if want.why == "ok" {
				seen["functions "+strconv.Itoa(min(strings.Count(want.made, "@"), 3))]++
				seen["coercions "+strconv.Itoa(min(strings.Count(want.made, "#"), 3))]++
			}
			if t.Failed() {
				t.FailNow()
			}
		}
	}
	for _, kind := range []string{"ok", "none", "many", "unknown", "functions 0", "functions 1", "functions 2", "functions 3", "coercions 0", "coercions 1", "coercions 2", "coercions 3"} {
		t.Log(kind, seen[kind])
		if seen[kind] < 50 {
			t.Errorf("%s: %d terms are too few", kind, seen[kind])
		}
	}
}

// someMade returns a pseudo-random explicit term of a type, with what it has. It is larger if more parts are asked for.
func someMade(source *rand.Rand, s impl.System, kind int, parts int) (string, madeAnswers) {
	var coercions, functions []int
	for i, c := range s.Coercions {
		if c.To == kind {
			coercions = append(coercions, i)
		}
	}
	for i, f := range s.Functions {
		if f.Result == kind {
			functions = append(functions, i)
		}
	}
	n := source.Intn(1 + 2*len(coercions) + 4*len(functions))
	switch {
	case parts <= 1 || n == 0:
		value := strconv.Itoa(kind) + ":" + strconv.Itoa(source.Intn(s.Sizes[kind]))
		return value, madeAnswers{kind: kind, term: value}
	case n <= 2*len(coercions):
		i := coercions[(n-1)/2]
		made, want := someMade(source, s, s.Coercions[i].From, parts-1)
		want.kind, want.coercions = kind, want.coercions+1
		return wrapped(made, []int{i}), want
	}
	i := functions[(n-1-2*len(coercions))/4]
	want := madeAnswers{kind: kind, functions: []int{i}}
	var mades, terms []string
	for _, arg := range s.Functions[i].Args {
		made, part := someMade(source, s, arg, (parts-1)/len(s.Functions[i].Args))
		mades, terms = append(mades, made), append(terms, part.term)
		want.coercions += part.coercions
		want.functions = append(want.functions, part.functions...)
	}
	want.term = s.Functions[i].Name + "(" + strings.Join(terms, ",") + ")"
	return "@" + strconv.Itoa(i) + "(" + strings.Join(mades, ",") + ")", want
}

// TestMadeManySystems compares what is returned for pseudo-random explicit terms of a fixed seed, many of which Elaborate
// does not return, with what they were made of.
func TestMadeManySystems(t *testing.T) {
	source := rand.New(rand.NewSource(70))
	seen := map[string]int{}
	for n := range 100 {
		s := someSystem(source, 4+n%5, 1+n%6)
		for range 60 {
			made, want := someMade(source, s, source.Intn(len(s.Sizes)), 1<<source.Intn(11))
			if len(made) > impl.MaxMade {
				checkNoMade(t, s, made)
				seen["long"]++
				continue
			}
			checkMade(t, s, made, want)
			seen["functions "+strconv.Itoa(min(len(want.functions), 9))]++
			seen["coercions "+strconv.Itoa(min(want.coercions, 9))]++
			if !impl.TermValid(want.term) {
				seen["of no term"]++
			} else if other, _ := impl.ElaborateAt(s, want.term, want.kind); other != made {
				seen["of a term, but not Elaborate's"]++
			}
			if t.Failed() {
				t.FailNow()
			}
		}
	}
	for _, kind := range []string{"long", "functions 0", "functions 1", "functions 9", "coercions 0", "coercions 1", "coercions 9", "of no term", "of a term, but not Elaborate's"} {
		t.Log(kind, seen[kind])
		if seen[kind] < 50 {
			t.Errorf("%s: %d explicit terms are too few", kind, seen[kind])
		}
	}
}

func TestElaboratingKeepsMemory(t *testing.T) {
	s := spareSystem(systemOf(t, mixed))
	arguments := systemCells(s)
	before, names := numbersAt(arguments), namesAt(s)
	for _, term := range []string{"0:1", "h()", "f(0:1)", "i(f(0:1))", "g(f(0:1),1:2)", "k(0:0,0:0)", "0:9", "x", ""} {
		// Memory that can be told from that of other texts.
		term = strings.Clone(term)
		bytes := [][]*byte{byteCells(term)}
		lists := [][]*int{arguments}
		for _, f := range s.Functions {
			bytes = append(bytes, byteCells(f.Name))
		}
		for range 2 {
			made, _, _ := impl.Elaborate(s, term)
			at, _ := impl.ElaborateAt(s, term, 2)
			impl.TypeOf(s, term)
			impl.CoercionsIn(s, made)
			impl.MadeType(s, made)
			bytes = append(bytes, byteCells(made), byteCells(at))
			for _, text := range []string{made, at, term} {
				erased, _ := impl.EraseMade(s, text)
				functions, _ := impl.FunctionsIn(s, text)
				bytes, lists = append(bytes, byteCells(erased)), append(lists, numberCells(functions))
			}
		}
		checkApart(t, bytes...)
		checkApart(t, lists...)
		if after := numbersAt(arguments); !slices.Equal(before, after) || !slices.Equal(names, namesAt(s)) {
			t.Errorf("%q: the system was %v, %q and is %v, %q", term, before, names, after, namesAt(s))
		}
	}
}

func TestWrapMadeKeepsMemory(t *testing.T) {
	for _, made := range []string{"", "x", "0:1", "@1(#0(@0(0:1)),1:2)"} {
		made = strings.Clone(made)
		bytes := [][]*byte{byteCells(made)}
		for _, list := range [][]int{nil, {}, {3}, {0, 2}, {1, 2, 3, 4, 5, 6}} {
			way := spare(list...)
			for range 2 {
				bytes = append(bytes, byteCells(impl.WrapMade(made, way)))
			}
			if after := way[:len(way)+3]; !slices.Equal(after, append(slices.Clone(list), -7, -7, -7)) {
				t.Errorf("the way was %v and is %v", list, after)
			}
		}
		checkApart(t, bytes...)
	}
}

// TestElaboratingKeepsNoState asks the same of systems between which others were asked about, and of one that has changed.
func TestElaboratingKeepsNoState(t *testing.T) {
	s, other := systemOf(t, "2 3;0>1:0 1/f(0)0:1 0/f(1)1:0 0 0"), systemOf(t, "2 3;0>1:0 1/g(0)0:1 0/f(1)1:0 0 0")
	for range 3 {
		checkElaborate(t, s, "f(0:1)", outcome{"@0(0:1)", 0, "ok"})
		checkElaborate(t, other, "f(0:1)", outcome{"@1(#0(0:1))", 1, "ok"})
		checkElaborate(t, impl.System{}, "f(0:1)", toUnknown)
		checkMade(t, s, "@0(@0(0:1))", madeAnswers{0, "f(f(0:1))", 0, []int{0, 0}})
		checkMade(t, other, "@0(@0(0:1))", madeAnswers{0, "g(g(0:1))", 0, []int{0, 0}})
		checkNoMade(t, impl.System{}, "@0(@0(0:1))")
		list, _ := impl.FunctionsIn(s, "@0(@0(0:1))")
		list[0], list[1] = -7, -7
	}
	s.Functions[0].Name = "g"
	checkElaborate(t, s, "f(0:1)", outcome{"@1(#0(0:1))", 1, "ok"})
	checkMade(t, s, "@0(@0(0:1))", madeAnswers{0, "g(g(0:1))", 0, []int{0, 0}})
	s.Coercions = nil
	checkElaborate(t, s, "f(0:1)", toNone)
	checkNoMade(t, s, "@1(#0(0:1))")
	s.Sizes[0] = 1
	checkElaborate(t, s, "f(0:1)", toUnknown)
}

// TestElaboratingTogether makes terms explicit in the same system at the same time; it is for the race detector too.
func TestElaboratingTogether(t *testing.T) {
	s := systemOf(t, mixed)
	way := []int{0, 1}
	done := make(chan bool)
	for range 8 {
		go func() {
			made, kind, why := impl.Elaborate(s, "g(f(0:1),1:2)")
			at, whyAt := impl.ElaborateAt(s, "f(0:1)", 2)
			erased, ok := impl.EraseMade(s, made)
			list, has := impl.FunctionsIn(s, made)
			_, isMade := impl.MadeType(s, made+")")
			done <- made == "@2(#0(@0(0:1)),1:2)" && kind == 1 && why == "ok" && at == impl.WrapMade("@0(0:1)", way) && whyAt == "ok" &&
				erased == "g(f(0:1),1:2)" && ok && slices.Equal(list, []int{2, 0}) && has && !isMade && impl.CoercionsIn(s, made) == 1 && impl.TypeOf(s, "k(0:0,0:0)") == -1
		}()
	}
	for range 8 {
		if !<-done {
			t.Error("answers differ")
		}
	}
}
