package tests

import (
	"math"
	"math/rand"
	"runtime"
	"slices"
	"strconv"
	"strings"
	"testing"

	"loop.example/overloads/impl"
)

// A telling is what is wanted for a term and a type: all explicit terms, in order, or that they are too many to be told.
type telling struct {
	mades []string
	many  bool
}

// these are explicit terms that can be told.
func these(mades ...string) telling {
	return telling{mades: mades}
}

// tooMany are explicit terms that are too many to be told.
var tooMany = telling{many: true}

// checkTold compares what is returned for a term and a type with what is wanted, and checks promise 9: that explicit terms
// are of the term and have the type, each one once, and that all their values are told.
func checkTold(t *testing.T, s impl.System, term string, kind int, want telling) {
	t.Helper()
	system := impl.FormatSystem(s)
	list, ok := impl.AllMade(s, term, kind)
	if !slices.Equal(list, want.mades) || ok == want.many {
		t.Errorf("%s: AllMade(%q, %d) returns %q, %v, not %q, %v", system, term, kind, list, ok, want.mades, !want.many)
	}
	for i, made := range list {
		checkIsOf(t, s, made, term, kind)
		if slices.Contains(list[:i], made) {
			t.Errorf("%s: AllMade(%q, %d) returns %q twice", system, term, kind, made)
		}
	}
	values := valuesByDefinition(s, want)
	if got, ok := impl.ValuesOf(s, term, kind); !slices.Equal(got, values) || ok == want.many {
		t.Errorf("%s: ValuesOf(%q, %d) returns %v, %v, not %v, %v", system, term, kind, got, ok, values, !want.many)
	}
	cheapest := cheapestByDefinition(want)
	if got, ok := impl.CheapestMade(s, term, kind); got != cheapest || ok != (cheapest != "") {
		t.Errorf("%s: CheapestMade(%q, %d) returns %q, %v, not %q", system, term, kind, got, ok, cheapest)
	}
	// What Elaborate makes is one of them.
	if made, why := impl.ElaborateAt(s, term, kind); why == "ok" && !want.many && !slices.Contains(list, made) {
		t.Errorf("%s: AllMade(%q, %d) returns %q, but not %q", system, term, kind, list, made)
	}
}

// checkAllTold compares what is returned for a term in a valid system with what is wanted for each type; there are no
// explicit terms of types that are not among these.
func checkAllTold(t *testing.T, s impl.System, term string, want ...telling) {
	t.Helper()
	system := impl.FormatSystem(s)
	var kinds []int
	ambiguous := false
	for _, kind := range kindsAround(s) {
		if kind < 0 || kind >= len(s.Sizes) {
			checkUntold(t, s, term, kind)
			continue
		}
		told := telling{}
		if kind < len(want) {
			told = want[kind]
		}
		checkTold(t, s, term, kind, told)
		if told.many || len(told.mades) > 0 {
			kinds = append(kinds, kind)
		}
		ambiguous = ambiguous || len(valuesByDefinition(s, told)) > 1
	}
	if got := impl.KindsOf(s, term); !slices.Equal(got, kinds) {
		t.Errorf("%s: KindsOf(%q) returns %v, not %v", system, term, got, kinds)
	}
	if got, want := impl.LeastKind(s, term), leastByDefinition(s, kinds); got != want {
		t.Errorf("%s: LeastKind(%q) returns %d, not %d", system, term, got, want)
	}
	if got := impl.IsAmbiguous(s, term); got != ambiguous {
		t.Errorf("%s: IsAmbiguous(%q) returns %v", system, term, got)
	}
}

// checkUntold checks that nothing is told for a text and a number, of which one is no term or type.
func checkUntold(t *testing.T, s impl.System, text string, kind int) {
	t.Helper()
	list, ok := impl.AllMade(s, text, kind)
	values, hasValues := impl.ValuesOf(s, text, kind)
	cheapest, hasCheapest := impl.CheapestMade(s, text, kind)
	if len(list) != 0 || len(values) != 0 || cheapest != "" || ok || hasValues || hasCheapest {
		t.Errorf("%s: %.80q, %d: AllMade %q, %v, ValuesOf %v, %v, CheapestMade %q, %v", impl.FormatSystem(s), text, kind, list, ok, values, hasValues, cheapest, hasCheapest)
	}
}

// checkNoWays checks that nothing is told for a text that is no term, or in a system that is not valid.
func checkNoWays(t *testing.T, s impl.System, text string) {
	t.Helper()
	for _, kind := range []int{least, -1, 0, 1, 2, 3, 4, 5, 9, most} {
		checkUntold(t, s, text, kind)
	}
	if kinds := impl.KindsOf(s, text); len(kinds) != 0 {
		t.Errorf("%s: KindsOf(%.80q) returns %v", impl.FormatSystem(s), text, kinds)
	}
	if kind := impl.LeastKind(s, text); kind != -1 {
		t.Errorf("%s: LeastKind(%.80q) returns %d", impl.FormatSystem(s), text, kind)
	}
	if impl.IsAmbiguous(s, text) {
		t.Errorf("%s: IsAmbiguous(%.80q) returns true", impl.FormatSystem(s), text)
	}
}

// valuesByDefinition tells the values of explicit terms.
func valuesByDefinition(s impl.System, told telling) []int {
	var values []int
	for _, made := range told.mades {
		values = append(values, runByDefinition(s, made).value)
	}
	slices.Sort(values)
	return slices.Compact(values)
}

// cheapestByDefinition tells the first one of explicit terms with the fewest coercions, and is empty if there are none.
func cheapestByDefinition(told telling) string {
	cheapest := ""
	for _, made := range told.mades {
		if cheapest == "" || strings.Count(made, "#") < strings.Count(cheapest, "#") {
			cheapest = made
		}
	}
	return cheapest
}

// leastByDefinition tells the one of some types that all of them are above, -1 if there is none.
func leastByDefinition(s impl.System, kinds []int) int {
	for _, kind := range kinds {
		above := impl.AboveOf(s.Types, kind)
		if !slices.ContainsFunc(kinds, func(other int) bool { return !slices.Contains(above, other) }) {
			return kind
		}
	}
	return -1
}

// TestAllWaysExample is that of the document.
func TestAllWaysExample(t *testing.T) {
	s := systemOf(t, "2 2;0>1:0 1/f(0,1)0:0 1 0 1/f(1,0)1:0 0 1 1")
	checkAllTold(t, s, "f(0:0,0:1)", these("@0(0:0,#0(0:1))"), these("#0(@0(0:0,#0(0:1)))", "@1(#0(0:0),0:1)"))
	if values, ok := impl.ValuesOf(s, "f(0:0,0:1)", 1); !slices.Equal(values, []int{0, 1}) || !ok {
		t.Errorf("ValuesOf returns %v, %v", values, ok)
	}
}

func TestAllWaysOrdinary(t *testing.T) {
	s := systemOf(t, mixed)
	for term, want := range map[string][]telling{
		"0:1":    {these("0:1"), these("#0(0:1)", "#2(0:1)"), these("#1(#0(0:1))", "#1(#2(0:1))")},
		"1:2":    {these(), these("1:2"), these("#1(1:2)")},
		"2:0":    {these(), these(), these("2:0")},
		"h()":    {these("@3()"), these("#0(@3())", "#2(@3())"), these("#1(#0(@3()))", "#1(#2(@3()))")},
		"f(0:1)": {these("@0(0:1)"), these("#0(@0(0:1))", "#2(@0(0:1))"), these("#1(#0(@0(0:1)))", "#1(#2(@0(0:1)))", "@1(#0(0:1))", "@1(#2(0:1))")},
		"f(1:2)": {these(), these(), these("@1(1:2)")},
		"i(0:0)": {these(), these(), these("@6(#1(#0(0:0)))", "@6(#1(#2(0:0)))")},
		"k(0:0,0:0)": {
			these("@4(0:0,#0(0:0))", "@4(0:0,#2(0:0))", "@5(#0(0:0),0:0)", "@5(#2(0:0),0:0)"),
			these("#0(@4(0:0,#0(0:0)))", "#2(@4(0:0,#0(0:0)))", "#0(@4(0:0,#2(0:0)))", "#2(@4(0:0,#2(0:0)))", "#0(@5(#0(0:0),0:0))", "#2(@5(#0(0:0),0:0))", "#0(@5(#2(0:0),0:0))", "#2(@5(#2(0:0),0:0))"),
			these("#1(#0(@4(0:0,#0(0:0))))", "#1(#2(@4(0:0,#0(0:0))))", "#1(#0(@4(0:0,#2(0:0))))", "#1(#2(@4(0:0,#2(0:0))))", "#1(#0(@5(#0(0:0),0:0)))", "#1(#2(@5(#0(0:0),0:0)))", "#1(#0(@5(#2(0:0),0:0)))", "#1(#2(@5(#2(0:0),0:0)))"),
		},
		"g(1:0,0:1)": {
			these("@7(#1(1:0),#1(#0(0:1)))", "@7(#1(1:0),#1(#2(0:1)))"),
			these("@2(1:0,#0(0:1))", "@2(1:0,#2(0:1))", "#0(@7(#1(1:0),#1(#0(0:1))))", "#2(@7(#1(1:0),#1(#0(0:1))))", "#0(@7(#1(1:0),#1(#2(0:1))))", "#2(@7(#1(1:0),#1(#2(0:1))))"),
			these("#1(@2(1:0,#0(0:1)))", "#1(@2(1:0,#2(0:1)))", "#1(#0(@7(#1(1:0),#1(#0(0:1)))))", "#1(#2(@7(#1(1:0),#1(#0(0:1)))))", "#1(#0(@7(#1(1:0),#1(#2(0:1)))))", "#1(#2(@7(#1(1:0),#1(#2(0:1)))))"),
		},
		// An argument takes the type that the function wants, not one that Elaborate gives it alone.
		"f(f(0:1))": {
			these("@0(@0(0:1))"),
			these("#0(@0(@0(0:1)))", "#2(@0(@0(0:1)))"),
			these("#1(#0(@0(@0(0:1))))", "#1(#2(@0(@0(0:1))))", "@1(#0(@0(0:1)))", "@1(#2(@0(0:1)))"),
		},
		"i(f(0:1))": {these(), these(), these("@6(#1(#0(@0(0:1))))", "@6(#1(#2(@0(0:1))))", "@6(@1(#0(0:1)))", "@6(@1(#2(0:1)))")},
		"k(h(),g(2:0,2:1))": {
			these("@4(@3(),#0(@7(2:0,2:1)))", "@4(@3(),#2(@7(2:0,2:1)))", "@5(#0(@3()),@7(2:0,2:1))", "@5(#2(@3()),@7(2:0,2:1))"),
			these("#0(@4(@3(),#0(@7(2:0,2:1))))", "#2(@4(@3(),#0(@7(2:0,2:1))))", "#0(@4(@3(),#2(@7(2:0,2:1))))", "#2(@4(@3(),#2(@7(2:0,2:1))))", "#0(@5(#0(@3()),@7(2:0,2:1)))", "#2(@5(#0(@3()),@7(2:0,2:1)))", "#0(@5(#2(@3()),@7(2:0,2:1)))", "#2(@5(#2(@3()),@7(2:0,2:1)))"),
			these("#1(#0(@4(@3(),#0(@7(2:0,2:1)))))", "#1(#2(@4(@3(),#0(@7(2:0,2:1)))))", "#1(#0(@4(@3(),#2(@7(2:0,2:1)))))", "#1(#2(@4(@3(),#2(@7(2:0,2:1)))))", "#1(#0(@5(#0(@3()),@7(2:0,2:1))))", "#1(#2(@5(#0(@3()),@7(2:0,2:1))))", "#1(#0(@5(#2(@3()),@7(2:0,2:1))))", "#1(#2(@5(#2(@3()),@7(2:0,2:1))))"),
		},
	} {
		checkAllTold(t, s, term, want...)
	}
}

// TestAllWaysOrder has both arguments, functions and ways that change, in this order from the last one on.
func TestAllWaysOrder(t *testing.T) {
	s := systemOf(t, "1 1 1;0>2:0;0>1:0;1>2:0;0>1:0/g(1,1)0:0/f(2)2:0/g(0,1)2:0")
	checkAllTold(t, s, "0:0", these("0:0"), these("#1(0:0)", "#3(0:0)"), these("#0(0:0)", "#2(#1(0:0))", "#2(#3(0:0))"))
	checkAllTold(t, s, "g(0:0,0:0)",
		these("@0(#1(0:0),#1(0:0))", "@0(#1(0:0),#3(0:0))", "@0(#3(0:0),#1(0:0))", "@0(#3(0:0),#3(0:0))"),
		these("#1(@0(#1(0:0),#1(0:0)))", "#3(@0(#1(0:0),#1(0:0)))", "#1(@0(#1(0:0),#3(0:0)))", "#3(@0(#1(0:0),#3(0:0)))",
			"#1(@0(#3(0:0),#1(0:0)))", "#3(@0(#3(0:0),#1(0:0)))", "#1(@0(#3(0:0),#3(0:0)))", "#3(@0(#3(0:0),#3(0:0)))"),
		these("#0(@0(#1(0:0),#1(0:0)))", "#2(#1(@0(#1(0:0),#1(0:0))))", "#2(#3(@0(#1(0:0),#1(0:0))))",
			"#0(@0(#1(0:0),#3(0:0)))", "#2(#1(@0(#1(0:0),#3(0:0))))", "#2(#3(@0(#1(0:0),#3(0:0))))",
			"#0(@0(#3(0:0),#1(0:0)))", "#2(#1(@0(#3(0:0),#1(0:0))))", "#2(#3(@0(#3(0:0),#1(0:0))))",
			"#0(@0(#3(0:0),#3(0:0)))", "#2(#1(@0(#3(0:0),#3(0:0))))", "#2(#3(@0(#3(0:0),#3(0:0))))",
			"@2(0:0,#1(0:0))", "@2(0:0,#3(0:0))"),
	)
}

// TestAllWaysWithoutArguments has calls without arguments, and functions of the same name with other numbers of them.
func TestAllWaysWithoutArguments(t *testing.T) {
	s := systemOf(t, "1 2;0>1:1/f(0)0:0/f()1:0/f(0,0)0:0/f(1)1:1 0")
	checkAllTold(t, s, "f()", these(), these("@1()"))
	checkAllTold(t, s, "f(f())", these(), these("@3(@1())"))
	checkAllTold(t, s, "f(f(0:0))", these("@0(@0(0:0))"), these("#0(@0(@0(0:0)))", "@3(#0(@0(0:0)))", "@3(@3(#0(0:0)))"))
	checkAllTold(t, s, "f(0:0,0:0)", these("@2(0:0,0:0)"), these("#0(@2(0:0,0:0))"))
	checkAllTold(t, s, "f(f(),0:0)")
	checkAllTold(t, s, "g()")
}

// TestAllWaysNone has arguments with no explicit term, for which there are none of the call, but which can be told.
func TestAllWaysNone(t *testing.T) {
	s := systemOf(t, mixed)
	for _, term := range []string{
		// No value of the type, or no type.
		"0:2", "1:3", "2:2", "3:0", "5:0", "9:9", "0:9",
		// No function of this name, or with so many arguments.
		"j()", "j(0:0)", "j(0:0,0:0)", "f()", "f(0:0,0:0)", "g(0:0)", "g()", "h(0:0)", "h(h())", "k(0:0)", "i()",
		// No function of these types.
		"f(2:0)", "k(1:0,1:0)", "k(2:0,0:0)", "k(0:0,2:0)", "f(f(1:0))", "k(i(0:0),h())",
		// No explicit term of an argument, the left one, the right one, or both.
		"f(0:2)", "i(9:0)", "f(j())", "g(0:2,0:0)", "g(0:0,0:2)", "g(0:2,0:2)", "k(j(),0:0)", "k(0:0,j())", "g(f(2:0),1:0)", "g(1:0,f(2:0))",
		"f(f(f(0:3)))", "f(g(i(k(0:0,1:3)),0:0))", "g(g(0:0,0:0),g(0:0,j()))", "g(g(j(),0:0),g(0:0,0:0))", "i(k(0:0,f(1:0)))",
	} {
		checkAllTold(t, s, term)
	}
	for kind := range 10 {
		for value := range 10 {
			if literal := strconv.Itoa(kind) + ":" + strconv.Itoa(value); kind >= len(s.Sizes) || value >= s.Sizes[kind] {
				checkAllTold(t, s, literal)
				checkAllTold(t, s, "i("+literal+")")
			}
		}
	}
	checkAllTold(t, systemOf(t, "1"), "f()")
	checkAllTold(t, systemOf(t, "1"), "0:0", these("0:0"))
}

// TestAllWaysUpToLimit has just as many explicit terms as can be told, and one more.
func TestAllWaysUpToLimit(t *testing.T) {
	if impl.MaxMades != 150 {
		t.Errorf("MaxMades is %d", impl.MaxMades)
	}
	// There are five ways from 0 to 1, fifteen from 0 to 2, and three from 1 to 2.
	const types = "2 2 2;0>1:0 1;0>1:0 1;0>1:0 1;0>1:0 1;0>1:1 0;1>2:0 1;1>2:0 1;1>2:0 1"
	s := systemOf(t, types+"/f(1,2)0:0 0 1 1/f(2,1)0:0 1 0 1/g(0)1:0 1/h(0,0)0:0 0 0 0")
	const term = "f(0:0,0:0)"
	list, ok := impl.AllMade(s, term, 0)
	if len(list) != 150 || !ok || list[0] != "@0(#0(0:0),#5(#0(0:0)))" || list[74] != "@0(#4(0:0),#7(#4(0:0)))" || list[75] != "@1(#5(#0(0:0)),#0(0:0))" || list[149] != "@1(#7(#4(0:0)),#4(0:0))" {
		t.Errorf("AllMade returns %q (%d), %v", list, len(list), ok)
	}
	want := tellingByDefinition(s, tree{name: "f", parts: []tree{{}, {}}}, 0)
	checkAllTold(t, s, term, want, tooMany, tooMany)
	if values, ok := impl.ValuesOf(s, term, 0); !slices.Equal(values, []int{0, 1}) || !ok || !impl.IsAmbiguous(s, term) {
		t.Errorf("ValuesOf returns %v, %v", values, ok)
	}
	// Within a call they are as many.
	var within telling
	for _, made := range list {
		within.mades = append(within.mades, "@2("+made+")")
	}
	checkAllTold(t, s, "g("+term+")", these(), within, tooMany)
	// One more, as the first, as the last and as one in between.
	for _, more := range []string{
		types + "/f(0,0)0:0 0 0 0/f(1,2)0:0 0 1 1/f(2,1)0:0 1 0 1/g(0)1:0 1/h(0,0)0:0 0 0 0",
		types + "/f(1,2)0:0 0 1 1/f(2,1)0:0 1 0 1/g(0)1:0 1/h(0,0)0:0 0 0 0/f(0,0)0:0 0 0 0",
		types + "/f(1,2)0:0 0 1 1/h(0,0)0:0 0 0 0/f(0,0)0:0 0 0 0/f(2,1)0:0 1 0 1/g(0)1:0 1",
	} {
		s := systemOf(t, more)
		checkAllTold(t, s, term, tooMany, tooMany, tooMany)
		checkAllTold(t, s, "g("+term+")", these(), tooMany, tooMany)
		checkAllTold(t, s, "h("+term+",0:0)", tooMany, tooMany, tooMany)
		checkAllTold(t, s, "h(0:0,"+term+")", tooMany, tooMany, tooMany)
		// With an argument that has no explicit term there are none.
		checkAllTold(t, s, "h("+term+",0:2)")
		checkAllTold(t, s, "h(0:2,"+term+")")
	}
}

// TestAllWaysTooManyArguments has arguments with more explicit terms than can be told, of which the call may have fewer.
func TestAllWaysTooManyArguments(t *testing.T) {
	const types = "1 1 1;0>1:0;0>1:0;0>1:0;0>1:0;0>1:0;0>1:0;0>1:0;0>1:0"
	s := systemOf(t, types+"/f(1)0:0/g(0,2)0:0/g(2,0)2:0/h(0)2:0/i(2)2:0")
	const many = "f(f(f(0:0)))"
	checkAllTold(t, s, many, tooMany, tooMany)
	checkAllTold(t, s, "f("+many+")", tooMany, tooMany)
	checkAllTold(t, s, "g("+many+",2:0)", tooMany, tooMany)
	checkAllTold(t, s, "g(2:0,"+many+")", these(), these(), tooMany)
	// No way leads from the result of the function to the other types, and no function takes the type.
	checkAllTold(t, s, "h("+many+")", these(), these(), tooMany)
	checkAllTold(t, s, "i("+many+")")
	// The other argument has none of the type, behind it or before it.
	for _, none := range []string{"0:0", "1:0", "2:1", "k()", "f(0:0)", "f(2:0)", "i(0:0)", many} {
		checkAllTold(t, s, "g("+many+","+none+")")
		checkAllTold(t, s, "g("+none+","+many+")")
		checkAllTold(t, s, "g(f("+many+"),"+none+")")
		checkAllTold(t, s, "i(g("+none+",f("+many+")))")
	}
	// There are too many of two types, but not of the one that the function takes.
	s = systemOf(t, types+"/f(1)0:0/f(0)2:0/i(2)2:0")
	told := tellingByDefinition(s, tree{name: "f", parts: []tree{{name: "f", parts: []tree{{name: "f", parts: []tree{{}}}}}}}, 2)
	if len(told.mades) != 64 {
		t.Errorf("there are %d explicit terms of %q", len(told.mades), many)
	}
	checkAllTold(t, s, many, tooMany, tooMany, told)
	for i, made := range told.mades {
		told.mades[i] = "@2(" + made + ")"
	}
	checkAllTold(t, s, "i("+many+")", these(), these(), told)
}

// TestAllWaysVeryMany has more explicit terms than any number can tell: each call has sixteen times as many as what is
// within it, and powers of two are what numbers lose.
func TestAllWaysVeryMany(t *testing.T) {
	s := systemOf(t, "1 1 1 1;0>1:0;0>1:0;0>1:0;0>1:0;1>2:0;1>2:0;1>2:0;1>2:0/f(2)0:0/h()0:0/g(0,3)3:0/g(3,0)3:0")
	n := tree{name: "h"}
	for calls := range 20 {
		term := n.text()
		var want []telling
		for kind, ways := range []float64{1, 4, 16} {
			count := ways * math.Pow(16, float64(calls))
			told := tellingByDefinition(s, n, kind)
			if told.many != (count > 150) || !told.many && len(told.mades) != int(count) {
				t.Errorf("%q has %d explicit terms with the type %d, not %v", term, len(told.mades), kind, count)
			}
			want = append(want, told)
		}
		checkAllTold(t, s, term, want...)
		if calls > 1 && calls < 17 {
			checkAllTold(t, s, "g("+term+",3:0)", these(), these(), these(), tooMany)
			checkAllTold(t, s, "g(3:0,"+term+")", these(), these(), these(), tooMany)
			checkAllTold(t, s, "g("+term+",3:1)")
			checkAllTold(t, s, "g(3:1,"+term+")")
			checkAllTold(t, s, "g(2:0,"+term+")")
		}
		n = tree{name: "f", parts: []tree{n}}
	}
}

// TestAllWaysLongest has the longest explicit terms of all, which are as long as these may be, and longer ones, whose terms
// are longer than terms can be: a literal or a call of at least three bytes is wrapped in at most four coercions, of four
// bytes each.
func TestAllWaysLongest(t *testing.T) {
	const types = "2 2 2 2 2;0>1:0 1;1>2:1 0;2>3:1 0;3>4:0 1"
	s := systemOf(t, types+"/f(4)0:1 0/h()0:1")
	term, made := "h()", "@1()"
	for range 19 {
		term, made = "f("+term+")", "@0("+wrapped(made, []int{0, 1, 2, 3})+")"
	}
	var want []telling
	for kind := range s.Sizes {
		want = append(want, these(wrapped(made, []int{0, 1, 2, 3}[:kind])))
	}
	if longest := want[4].mades[0]; len(term) != impl.MaxTerm || len(longest) != 400 || impl.MaxMade != 400 {
		t.Errorf("%d bytes are to be made of %d", len(longest), len(term))
	}
	checkAllTold(t, s, term, want...)
	checkNoWays(t, s, "f("+term+")")
	checkNoWays(t, s, term+" ")
	// With other functions for what is innermost there is a shorter one beside the longest one.
	s = systemOf(t, types+"/f(4)0:1 0/h()0:1/g(4)0:0 1/g(0)4:0 1")
	term = strings.Replace(term, "f(h())", "g(h())", 1)
	checkAllTold(t, s, term, tellingsByDefinition(s, chainOf(term))...)
	if list, ok := impl.AllMade(s, term, 4); len(list) != 2 || !ok || len(list[0]) != 400 || len(list[1]) != 400-8*4 {
		t.Errorf("AllMade(%q, 4) returns %q, %v", term, list, ok)
	}
}

// chainOf returns the term of a text in which each call has one argument, or none.
func chainOf(term string) tree {
	n := tree{name: term[:1]}
	if term != n.name+"()" {
		n.parts = []tree{chainOf(term[2 : len(term)-1])}
	}
	return n
}

// TestValuesOf has ways that make different values.
func TestValuesOf(t *testing.T) {
	s := systemOf(t, "2 4;0>1:3 0;0>1:1 0;0>1:3 0;0>1:0 0/f(1)0:0 1 1 0/g(1,1)1:0 1 2 3 1 2 3 0 2 3 0 1 3 0 1 2/h(0)1:2 2")
	for _, c := range []struct {
		term      string
		values    [][]int
		ambiguous bool
	}{
		{"0:0", [][]int{{0}, {0, 1, 3}}, true},
		{"0:1", [][]int{{1}, {0}}, false},
		{"1:2", [][]int{nil, {2}}, false},
		{"f(0:0)", [][]int{{0, 1}, {0, 1, 3}}, true},
		{"f(0:1)", [][]int{{0}, {0, 1, 3}}, true},
		{"f(1:1)", [][]int{{1}, {0}}, false},
		{"f(f(1:1))", [][]int{{0}, {0, 1, 3}}, true},
		{"g(0:0,1:0)", [][]int{nil, {0, 1, 3}}, true},
		{"g(0:0,0:0)", [][]int{nil, {0, 1, 2, 3}}, true},
		{"g(0:1,0:1)", [][]int{nil, {0}}, false},
		{"g(1:3,1:2)", [][]int{nil, {1}}, false},
		{"h(f(0:0))", [][]int{nil, {2}}, false},
		{"h(0:2)", nil, false},
	} {
		for kind := range s.Sizes {
			var want []int
			if kind < len(c.values) {
				want = c.values[kind]
			}
			if values, ok := impl.ValuesOf(s, c.term, kind); !slices.Equal(values, want) || !ok {
				t.Errorf("ValuesOf(%q, %d) returns %v, %v, not %v", c.term, kind, values, ok, want)
			}
		}
		if impl.IsAmbiguous(s, c.term) != c.ambiguous {
			t.Errorf("IsAmbiguous(%q) returns %v", c.term, !c.ambiguous)
		}
	}
}

// TestIsAmbiguous has types that do not count: those whose values can't be told, and those with one value, be they
// different ones.
func TestIsAmbiguous(t *testing.T) {
	for _, c := range []struct {
		text string
		term string
		want bool
	}{
		// Two ways, which make different values of one of two, at the first type and at the last one.
		{"2 2;0>1:0 1;0>1:1 1", "0:0", true},
		{"2 2;0>1:0 1;0>1:1 1", "0:1", false},
		{"1 1 1 2 4;3>4:0 3;3>4:0 2", "3:0", false},
		{"1 1 1 2 4;3>4:0 3;3>4:0 2", "3:1", true},
		{"2 1/f(0)0:0 1/f(1)0:1", "f(0:1)", false},
		{"2 1;0>1:0 0/f(0)0:0 1/f(1)0:0", "f(0:1)", true},
		{"2 1;0>1:0 0/f(0)0:0 1/f(1)0:1", "f(0:1)", false},
		// Different values of different types, of which each has one.
		{"2 4;0>1:3 2/f(0)0:1 0", "0:1", false},
		{"2 4;0>1:3 2/f(0)0:1 0", "f(0:1)", false},
		{"2 4/f(0)0:1 0/f(1)1:3 3 3 3/g()1:3", "g()", false},
		// A type of one value, with several explicit terms.
		{"1 1;0>1:0;0>1:0;0>1:0", "0:0", false},
		// At the type 1 there are 64 with different values, and then too many; at the others there are none, or all have one value.
		{"2 2 1;0>1:0 1;0>1:1 0;0>1:0 1;0>1:1 0;0>1:0 1;0>1:1 0;0>1:0 1;0>1:1 0/g(1,1)1:0 1 1 0", "g(0:0,0:0)", true},
		{"2 2 1;0>1:0 1;0>1:1 0;0>1:0 1;0>1:1 0;0>1:0 1;0>1:1 0;0>1:0 1;0>1:1 0/g(1,1)1:0 1 1 0", "g(g(0:0,0:0),0:0)", false},
		{"2 2 1;0>1:0 1;0>1:1 0;0>1:0 1;0>1:1 0;0>1:0 1;0>1:1 0;0>1:0 1;0>1:1 0/g(1,1)1:0 1 1 0/g(1,0)0:0 0 0 0", "g(g(0:0,0:0),0:0)", false},
		// There are too many at the type 1, but at the type 0 or 2 there are 64, with different values or with one.
		{"2 2 1;0>1:0 1;0>1:1 0;0>1:0 1;0>1:1 0;0>1:0 1;0>1:1 0;0>1:0 1;0>1:1 0/g(1,1)0:0 1 1 0", "g(0:0,0:0)", true},
		{"2 2 2;0>1:0 1;0>1:1 0;0>1:0 1;0>1:1 0;0>1:0 1;0>1:1 0;0>1:0 1;0>1:1 0/g(1,1)1:0 1 1 0/k(1,1)1:0 1 1 0/k(1,0)2:0 0 1 1", "k(g(0:0,0:0),0:0)", true},
		{"2 2 2;0>1:0 1;0>1:1 0;0>1:0 1;0>1:1 0;0>1:0 1;0>1:1 0;0>1:0 1;0>1:1 0/g(1,1)1:0 1 1 0/k(1,1)1:0 1 1 0/k(1,0)2:1 0 1 0", "k(g(0:0,0:0),0:0)", false},
	} {
		s := systemOf(t, c.text)
		if impl.IsAmbiguous(s, c.term) != c.want {
			t.Errorf("%s: IsAmbiguous(%q) returns %v", c.text, c.term, !c.want)
		}
	}
}

// TestLeastKind has terms with types that can't be compared, and others.
func TestLeastKind(t *testing.T) {
	for _, c := range []struct {
		text  string
		term  string
		kinds []int
		least int
	}{
		{"1 1 1;0>1:0;0>2:0", "0:0", []int{0, 1, 2}, 0},
		{"1 1 1;0>1:0;0>2:0", "1:0", []int{1}, 1},
		{"1 1 1;0>1:0;0>2:0", "2:0", []int{2}, 2},
		{"1 1 1;0>2:0;1>2:0", "1:0", []int{1, 2}, 1},
		// Two types between which no way leads, alone, with one above both, and with one below both that is not among them.
		{"1 1 1;0>2:0/f(0)0:0/f(2)1:0", "f(0:0)", []int{0, 1, 2}, -1},
		{"1 1 1 1;0>1:0;2>3:0/f(0)2:0/f(1)0:0", "f(1:0)", []int{0, 1}, 0},
		{"1 1 1;0>1:0/f(0)1:0/f(1)2:0", "f(0:0)", []int{1, 2}, -1},
		{"1 1 1 1;0>1:0;1>3:0;2>3:0/f(0)1:0/f(1)2:0", "f(0:0)", []int{1, 2, 3}, -1},
		{"1 1 1 1;0>1:0;1>2:0;1>3:0/f(0)2:0/f(1)3:0", "f(0:0)", []int{2, 3}, -1},
		{"1 1 1 1;0>1:0;1>2:0;1>3:0/f(0)2:0/f(1)3:0/f(2)1:0", "f(0:0)", []int{1, 2, 3}, 1},
		{"1 1 1 1;0>1:0;1>2:0;1>3:0/f(0)2:0/f(1)3:0/f(2)1:0", "f(f(0:0))", []int{1, 2, 3}, 1},
		{"1 1 1 1;0>1:0;1>2:0;1>3:0/f(0)2:0/f(1)3:0/g(3)0:0", "g(f(0:0))", []int{0, 1, 2, 3}, 0},
		// A later function gives an earlier type.
		{"1 1 1 1 1;3>4:0;0>1:0;1>2:0/f(1)3:0/f(2)2:0", "f(0:0)", []int{2, 3, 4}, -1},
		{"1 1 1 1 1;3>4:0;0>1:0;1>2:0/f(1)3:0/f(2)2:0", "f(2:0)", []int{2}, 2},
		{"1 1 1 1 1;3>4:0;0>1:0;1>2:0;2>3:0/f(1)3:0/f(2)2:0", "f(0:0)", []int{2, 3, 4}, 2},
		// Only by ways of several coercions.
		{"1 1 1 1 1;0>1:0;1>2:0;2>3:0;3>4:0", "1:0", []int{1, 2, 3, 4}, 1},
		// None.
		{"1 1;0>1:0/f(0)0:0", "f(1:0)", nil, -1},
		{"1 1;0>1:0/f(0)0:0", "0:1", nil, -1},
		{"1 1;0>1:0/f(0)0:0", "2:0", nil, -1},
	} {
		s := systemOf(t, c.text)
		if kinds := impl.KindsOf(s, c.term); !slices.Equal(kinds, c.kinds) {
			t.Errorf("%s: KindsOf(%q) returns %v, not %v", c.text, c.term, kinds, c.kinds)
		}
		if kind := impl.LeastKind(s, c.term); kind != c.least {
			t.Errorf("%s: LeastKind(%q) returns %d, not %d", c.text, c.term, kind, c.least)
		}
	}
}

func TestCheapestMade(t *testing.T) {
	for _, c := range []struct {
		text string
		term string
		kind int
		want string
	}{
		{"1 1;0>1:0", "0:0", 0, "0:0"},
		{"1 1;0>1:0", "1:0", 0, ""},
		{"1 1;0>1:0", "0:1", 0, ""},
		// Of ways the shortest one, and of these the first one.
		{"1 1 1;0>1:0;1>2:0;0>2:0", "0:0", 2, "#2(0:0)"},
		{"1 1 1;0>1:0;1>2:0;0>2:0;0>2:0;0>1:0", "0:0", 2, "#2(0:0)"},
		{"1 1 1;0>1:0;1>2:0;0>1:0;1>2:0", "0:0", 2, "#1(#0(0:0))"},
		// Of functions the one that takes the fewest coercions, and of these the first one.
		{"1 1 1;0>1:0;1>2:0/f(2)2:0/f(1)2:0", "f(0:0)", 2, "@1(#0(0:0))"},
		{"1 1 1;0>1:0;1>2:0/f(2)2:0/f(1)2:0/f(0)2:0", "f(0:0)", 2, "@2(0:0)"},
		{"1 1 1;0>1:0;0>2:0/f(2)0:0/f(1)0:0", "f(0:0)", 0, "@0(#1(0:0))"},
		{"1 1;0>1:0/f(0,1)0:0/f(1,0)0:0", "f(0:0,0:0)", 0, "@0(0:0,#0(0:0))"},
		{"1 1;0>1:0/f(0,1)0:0/f(1,0)1:0", "f(0:0,0:0)", 1, "@1(#0(0:0),0:0)"},
		{"1 1;0>1:0/f(0,1)0:0/f(1,0)1:0", "f(0:0,0:0)", 0, "@0(0:0,#0(0:0))"},
		// Coercions count wherever they are: around the call, or in an argument of an argument.
		{"1 1;0>1:0/f(0)0:0/f(1)1:0", "f(0:0)", 1, "#0(@0(0:0))"},
		{"1 1;0>1:0/f(0)0:0/f(1)1:0", "f(f(f(0:0)))", 1, "#0(@0(@0(@0(0:0))))"},
		{"1 1;0>1:0/f(1)1:0/f(0)0:0", "f(f(f(0:0)))", 1, "@0(@0(@0(#0(0:0))))"},
		{"1 1 1;0>1:0;1>2:0/g(0)0:0/f(2)2:0/g(1)2:0/f(1)2:0/f(0)0:0", "f(g(0:0))", 2, "@1(@2(#0(0:0)))"},
		// Not the one of Elaborate, which has more.
		{"1 1 1 1;0>1:0;1>2:0;2>3:0;0>3:0/f(2)3:0/f(3)3:0", "f(0:0)", 3, "@1(#3(0:0))"},
		// Too many.
		{"1 1;0>1:0;0>1:0;0>1:0;0>1:0;0>1:0;0>1:0;0>1:0;0>1:0/g(1,1)0:0", "g(0:0,0:0)", 1, ""},
		{"1 1;0>1:0;0>1:0;0>1:0;0>1:0;0>1:0;0>1:0;0>1:0;0>1:0/g(1,1)0:0", "g(0:0,0:0)", 0, "@0(#0(0:0),#0(0:0))"},
	} {
		s := systemOf(t, c.text)
		if made, ok := impl.CheapestMade(s, c.term, c.kind); made != c.want || ok != (c.want != "") {
			t.Errorf("%s: CheapestMade(%q, %d) returns %q, %v, not %q", c.text, c.term, c.kind, made, ok, c.want)
		}
	}
}

// TestAllWaysTextsThatAreNoTerms has texts that are no terms, among them explicit terms.
func TestAllWaysTextsThatAreNoTerms(t *testing.T) {
	s := systemOf(t, mixed)
	for _, text := range []string{
		"", " ", "x", "0", "0:", ":0", "00:0", "0:0 ", " 0:0", "0:0\n", "0:00", "-0:0", "f", "f(", "f)", "f(0:0", "f(0:0))", "f(0:0,)", "f(,)", "f(0:0,0:0,0:0)", "e(0:0)", "l(0:0)", "F(0:0)", "(0:0)",
		"@0(0:1)", "#0(0:1)", "@3()", "f(@3())", "f(#0(0:1))", "@2(#0(@0(0:1)),1:2)", "\x00", "0:0\x00", "\xff", "ｆ(0:0)", strings.Repeat("f(", 1000000), strings.Repeat("0:0", 100000), termOfLength(61),
	} {
		checkNoWays(t, s, text)
	}
	for _, term := range []string{"0:1", "h()", "g(f(0:1),1:2)", "k(h(),g(h(),h()))", "k(0:0,0:0)"} {
		for i := range len(term) {
			checkNoWays(t, s, term[:i])
			checkNoWays(t, s, term[:i]+"\x00"+term[i:])
		}
		for _, more := range []string{")", "(", ",", " ", "0", term} {
			checkNoWays(t, s, term+more)
		}
	}
}

func TestInvalidSystemsHaveNoWays(t *testing.T) {
	bad := badSystems()
	bad["zero value"] = impl.System{}
	for reason, s := range bad {
		for _, text := range []string{"", "0:0", "0:1", "1:0", "f()", "f(0:0)", "k(0:0)", "f(0:0,0:0)", "0:9", "x"} {
			checkNoWays(t, s, text)
		}
		if t.Failed() {
			t.Fatal(reason)
		}
	}
}

// TestAllWaysKindsOutOfRange has numbers that are no types, for terms with explicit terms and for others.
func TestAllWaysKindsOutOfRange(t *testing.T) {
	for _, text := range []string{"1", mixed, "4 3 2 1 4/i(0)0:0 1 2 3"} {
		s := systemOf(t, text)
		for _, kind := range []int{-1, -2, len(s.Sizes), len(s.Sizes) + 1, 5, 9, 10, 1 << 32, most, least, least + 1} {
			for _, term := range []string{"0:0", "h()", "f(0:0)", "i(0:0)", "j()", "0:9", strconv.Itoa(len(s.Sizes)) + ":0", "x", ""} {
				checkUntold(t, s, term, kind)
			}
		}
	}
}

// countByDefinition tells how many explicit terms of a term in a valid system have a type; it is not exact if they are
// very many. It keeps in known what it has told of the system, by a term and a type.
func countByDefinition(s impl.System, n tree, kind int, known map[string]float64) float64 {
	key := n.text() + " " + strconv.Itoa(kind)
	if count, ok := known[key]; ok {
		return count
	}
	ways := func(from int) float64 {
		list, _ := impl.WaysOf(s.Types, from, kind)
		return float64(len(list))
	}
	count := 0.0
	if n.name == "" && impl.HasValue(s.Types, n.kind, n.value) {
		count = ways(n.kind)
	}
	for _, f := range s.Functions {
		if f.Name != n.name || len(f.Args) != len(n.parts) {
			continue
		}
		product := ways(f.Result)
		for place, arg := range f.Args {
			product *= countByDefinition(s, n.parts[place], arg, known)
		}
		count += product
	}
	known[key] = count
	return count
}

// madesByDefinition tells all explicit terms of a term in a valid system that have a type, in order, by their texts.
func madesByDefinition(s impl.System, n tree, kind int, known map[string]float64) []string {
	var list []string
	around := func(made string, from int) {
		ways, _ := impl.WaysOf(s.Types, from, kind)
		for _, way := range ways {
			list = append(list, wrapped(made, way))
		}
	}
	if n.name == "" && countByDefinition(s, n, kind, known) > 0 {
		around(n.text(), n.kind)
	}
	for i, f := range s.Functions {
		if f.Name != n.name || len(f.Args) != len(n.parts) || !impl.CanCoerce(s.Types, f.Result, kind) {
			continue
		}
		rows := []string{""}
		for place, arg := range f.Args {
			if countByDefinition(s, n.parts[place], arg, known) == 0 {
				rows = nil
			}
		}
		for place, arg := range f.Args {
			if len(rows) == 0 {
				break
			}
			// The rows are the slower ones.
			var longer []string
			mades := madesByDefinition(s, n.parts[place], arg, known)
			for _, row := range rows {
				for _, made := range mades {
					longer = append(longer, row+","+made)
				}
			}
			rows = longer
		}
		for _, row := range rows {
			around("@"+strconv.Itoa(i)+"("+strings.TrimPrefix(row, ",")+")", f.Result)
		}
	}
	return list
}

// tellingByDefinition tells what is wanted for a term in a valid system and a type.
func tellingByDefinition(s impl.System, n tree, kind int) telling {
	known := map[string]float64{}
	if countByDefinition(s, n, kind, known) > 150 {
		return tooMany
	}
	return telling{mades: madesByDefinition(s, n, kind, known)}
}

// tellingsByDefinition tells what is wanted for a term in a valid system and all types.
func tellingsByDefinition(s impl.System, n tree) []telling {
	var want []telling
	for kind := range s.Sizes {
		want = append(want, tellingByDefinition(s, n, kind))
	}
	return want
}

// TestAllWaysAllMades compares what is told for all small terms of some systems with a list of all explicit terms, by
// which of these EraseMade is the term.
func TestAllWaysAllMades(t *testing.T) {
	for _, c := range []struct {
		text string
		// Explicit terms of so many calls within each other have no more parts within each other.
		calls int
		depth int
		terms int
		count int
	}{
		{"1 1;0>1:0/f(0)0:0/f(1)1:0/g(0,1)1:0", 2, 6, 20, 28},
		{"2 2;0>1:0 1;0>1:1 0/f(0)1:0 1/f(1)0:1 0/h()0:1", 2, 6, 14, 86},
		{"1 2 2;0>1:1;1>2:1 0;0>2:0/f(2)0:0 0/f(0)1:0/k(1)2:1 0", 1, 6, 13, 39},
		{"1 2;0>1:1/g(1,0)0:0 0/g(0,1)1:1 0/h()1:0", 1, 4, 9, 14},
	} {
		s := systemOf(t, c.text)
		type goal struct {
			term string
			kind int
		}
		told := map[goal][]string{}
		terms := map[string]bool{}
		for kind, mades := range allMades(s, c.depth) {
			for _, made := range mades {
				term, ok := impl.EraseMade(s, made)
				if !ok {
					t.Fatalf("%s: %q is none", c.text, made)
				}
				// A text that is too long to be a term has no depth.
				if depth := impl.DepthOf(term); depth >= 0 && depth <= c.calls {
					terms[term] = true
					told[goal{term, kind}] = append(told[goal{term, kind}], made)
				}
			}
		}
		count := 0
		for term := range terms {
			var kinds []int
			for kind := range s.Sizes {
				want := told[goal{term, kind}]
				slices.Sort(want)
				list, ok := impl.AllMade(s, term, kind)
				slices.Sort(list)
				if !slices.Equal(list, want) || !ok {
					t.Errorf("%s: AllMade(%q, %d) returns, sorted, %q, %v, not %q", c.text, term, kind, list, ok, want)
				}
				values, ok := impl.ValuesOf(s, term, kind)
				if wantValues := valuesByDefinition(s, telling{mades: want}); !slices.Equal(values, wantValues) || !ok {
					t.Errorf("%s: ValuesOf(%q, %d) returns %v, %v, not %v", c.text, term, kind, values, ok, wantValues)
				}
				if len(want) > 0 {
					kinds = append(kinds, kind)
				}
				count += len(want)
			}
			if got := impl.KindsOf(s, term); !slices.Equal(got, kinds) {
				t.Errorf("%s: KindsOf(%q) returns %v, not %v", c.text, term, got, kinds)
			}
		}
		if len(terms) != c.terms || count != c.count {
			t.Errorf("%s: there are %d explicit terms of %d terms", c.text, count, len(terms))
		}
	}
}

// TestAllWaysManySystems compares what is told for pseudo-random terms of a fixed seed in pseudo-random systems with the
// definition.
func TestAllWaysManySystems(t *testing.T) {
	source := rand.New(rand.NewSource(9))
	seen := map[string]int{}
	for n := range 80 {
		s := someSystem(source, 4+n%5, 1+n%2)
		for range 30 {
			term := someTree(source, 3+source.Intn(38))
			fit(source, s, &term)
			want := tellingsByDefinition(s, term)
			for _, told := range want {
				switch {
				case told.many:
					seen["too many"]++
				case len(told.mades) > 10:
					seen["more than ten"]++
				case len(told.mades) > 1:
					seen["several"]++
				default:
					seen[strconv.Itoa(len(told.mades))]++
				}
			}
			checkAllTold(t, s, term.text(), want...)
			seen["ambiguous "+strconv.FormatBool(impl.IsAmbiguous(s, term.text()))]++
			if kind := impl.LeastKind(s, term.text()); kind >= 0 {
				seen["least"]++
			} else if len(impl.KindsOf(s, term.text())) > 0 {
				seen["kinds, but no least one"]++
			}
			if t.Failed() {
				t.FailNow()
			}
		}
	}
	for _, kind := range []string{"0", "1", "several", "more than ten", "too many", "ambiguous true", "ambiguous false", "least", "kinds, but no least one"} {
		t.Log(kind, seen[kind])
		if seen[kind] < 50 {
			t.Errorf("%s: %d terms are too few", kind, seen[kind])
		}
	}
}

func TestAllWaysKeepMemory(t *testing.T) {
	s := spareSystem(systemOf(t, mixed))
	arguments := systemCells(s)
	before, names := numbersAt(arguments), namesAt(s)
	for _, term := range []string{"0:1", "2:0", "h()", "f(0:1)", "f(f(0:1))", "g(1:0,0:1)", "k(0:0,0:0)", "j()", "0:9", "x", ""} {
		// Memory that can be told from that of other texts.
		term = strings.Clone(term)
		bytes := [][]*byte{byteCells(term)}
		numbers := [][]*int{arguments}
		var lists [][]*string
		for _, f := range s.Functions {
			bytes = append(bytes, byteCells(f.Name))
		}
		for range 2 {
			for kind := range s.Sizes {
				list, _ := impl.AllMade(s, term, kind)
				lists = append(lists, cellsOf(list))
				for _, made := range list {
					bytes = append(bytes, byteCells(made))
				}
				cheapest, _ := impl.CheapestMade(s, term, kind)
				bytes = append(bytes, byteCells(cheapest))
				values, _ := impl.ValuesOf(s, term, kind)
				numbers = append(numbers, numberCells(values))
			}
			numbers = append(numbers, numberCells(impl.KindsOf(s, term)))
			impl.LeastKind(s, term)
			impl.IsAmbiguous(s, term)
		}
		checkApart(t, bytes...)
		checkApart(t, numbers...)
		checkApart(t, lists...)
		if after := numbersAt(arguments); !slices.Equal(before, after) || !slices.Equal(names, namesAt(s)) {
			t.Errorf("%q: the system was %v, %q and is %v, %q", term, before, names, after, namesAt(s))
		}
	}
}

// TestAllWaysKeepNoState asks the same of systems between which others were asked about, and of one that has changed.
func TestAllWaysKeepNoState(t *testing.T) {
	s, other := systemOf(t, "2 2;0>1:0 1/f(0)0:1 0/f(1)1:0 1"), systemOf(t, "2 2;0>1:1 0/g(0)0:1 0/f(1)1:0 1")
	for range 3 {
		checkAllTold(t, s, "f(0:1)", these("@0(0:1)"), these("#0(@0(0:1))", "@1(#0(0:1))"))
		checkAllTold(t, other, "f(0:1)", these(), these("@1(#0(0:1))"))
		checkNoWays(t, impl.System{}, "f(0:1)")
		list, _ := impl.AllMade(s, "f(0:1)", 1)
		list[0], list[1] = "x", "x"
		values, _ := impl.ValuesOf(s, "f(0:1)", 1)
		values[0], values[1] = -7, -7
		kinds := impl.KindsOf(s, "f(0:1)")
		kinds[0], kinds[1] = -7, -7
	}
	s.Functions[1].Table[1] = 0
	checkAllTold(t, s, "f(0:1)", these("@0(0:1)"), these("#0(@0(0:1))", "@1(#0(0:1))"))
	if impl.IsAmbiguous(s, "f(0:1)") {
		t.Error("a term is ambiguous by a table that was changed")
	}
	s.Functions[0].Name = "g"
	checkAllTold(t, s, "f(0:1)", these(), these("@1(#0(0:1))"))
	s.Coercions = nil
	checkAllTold(t, s, "f(0:1)")
	s.Sizes[1] = 1
	checkNoWays(t, s, "f(0:1)")
}

// TestAllWaysTogether asks about the same system at the same time; it is for the race detector too.
func TestAllWaysTogether(t *testing.T) {
	s := systemOf(t, mixed)
	done := make(chan bool)
	for range 8 {
		go func() {
			list, ok := impl.AllMade(s, "f(0:1)", 2)
			values, hasValues := impl.ValuesOf(s, "f(0:1)", 2)
			cheapest, isCheapest := impl.CheapestMade(s, "f(0:1)", 2)
			done <- slices.Equal(list, []string{"#1(#0(@0(0:1)))", "#1(#2(@0(0:1)))", "@1(#0(0:1))", "@1(#2(0:1))"}) && ok && slices.Equal(values, []int{0, 1}) && hasValues &&
				cheapest == "@1(#0(0:1))" && isCheapest && slices.Equal(impl.KindsOf(s, "f(0:1)"), []int{0, 1, 2}) && impl.LeastKind(s, "f(0:1)") == 0 && impl.IsAmbiguous(s, "f(0:1)")
		}()
	}
	for range 8 {
		if !<-done {
			t.Error("answers differ")
		}
	}
}

// TestAllWaysLeaveNoGoroutines tells values again and again, after which no goroutine that ran an explicit term is left.
func TestAllWaysLeaveNoGoroutines(t *testing.T) {
	s := systemOf(t, mixed)
	before := runtime.NumGoroutine()
	for range 50 {
		for _, term := range []string{"f(f(0:1))", "k(0:0,0:0)", "g(1:0,0:1)", "g(g(0:0,0:0),g(0:0,0:0))"} {
			impl.ValuesOf(s, term, 1)
			impl.IsAmbiguous(s, term)
			impl.CheapestMade(s, term, 1)
		}
	}
	checkGoroutines(t, before)
}
