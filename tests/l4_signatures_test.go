package tests

import (
	"math/rand"
	"regexp"
	"slices"
	"strconv"
	"strings"
	"testing"

	"loop.example/overloads/impl"
)

// eightFunctions is the text of a system with as many functions, arguments and results as there may be.
const eightFunctions = "4 3 2 1 4;0>1:0 1 2 2;1>2:0 1 0;2>4:1 2;0>2:0 1 0 0;3>4:3/f(0,4)4:0 1 2 3 1 2 3 0 2 3 0 1 3 0 1 2/f(4,0)1:2 1 0 2 1 0 2 1 0 2 1 0 2 1 0 2/k()4:3/k(3)3:0/f(1)2:1 0 1/f(2)2:0 1/f(1,1)0:0 1 2 3 2 1 0 1 2/f(2,1)3:0 0 0 0 0 0"

// goodSystems are texts of valid systems: those without functions, and some with functions of all sorts.
var goodSystems = append(slices.Clone(goodTexts),
	"1/f()0:0",
	"4/k()0:3",
	"2 3;0>1:0 1/f(0)0:1 0/f(1)1:1 0 2",
	"2 3;0>1:0 1/f(0)0:1 0/f(1)1:1 0 2/g(0,1)1:0 1 2 2 1 0/h()0:1",
	"2 3/g(0,1)1:0 1 2 2 1 0/g(1,0)0:0 1 1 0 1 1/g(0,0)0:0 1 1 0/g(1,1)1:0 1 2 0 1 2 0 1 2/g(0)0:1 1/g(1)0:0 0 1/g()1:2",
	"1 1;0>1:0/f(0)1:0/g(0)1:0/h(0)1:0/i(0)1:0/j(0)1:0/k(0)1:0",
	"1/f()0:0/g()0:0/h()0:0/i()0:0/j()0:0/k()0:0/f(0)0:0/g(0)0:0",
	"2 2;0>1:0 1/f(0,1)0:0 1 0 1/f(1,0)1:0 0 1 1",
	eightFunctions,
)

func sameFunction(a impl.Function, b impl.Function) bool {
	return a.Name == b.Name && a.Result == b.Result && slices.Equal(a.Args, b.Args) && slices.Equal(a.Table, b.Table)
}

// badFunctions are functions that do not fit types of two and of three values, each for one reason.
func badFunctions() map[string]impl.Function {
	return map[string]impl.Function{
		"zero value":            {},
		"no name":               function("", nil, 0, 1),
		"name before f":         function("e", nil, 0, 1),
		"name behind k":         function("l", nil, 0, 1),
		"large letter":          function("F", nil, 0, 1),
		"two letters":           function("ff", nil, 0, 1),
		"letter and space":      function("f ", nil, 0, 1),
		"letter and zero":       function("f\x00", nil, 0, 1),
		"long name":             function(strings.Repeat("f", 100000), nil, 0, 1),
		"no letter":             function("\xe6", nil, 0, 1),
		"number as its name":    function("6", nil, 0, 1),
		"three arguments":       function("f", []int{0, 0, 0}, 0, 0, 0, 0, 0, 0, 0, 0, 0),
		"many arguments":        function("f", make([]int, 100000), 0, 1),
		"negative argument":     function("f", []int{-1}, 0, 0, 0),
		"argument past the end": function("f", []int{2}, 0, 0, 0),
		"second past the end":   function("f", []int{0, 2}, 0, 0, 0, 0, 0),
		"huge argument":         function("f", []int{most}, 0, 0, 0),
		"least argument":        function("f", []int{0, least}, 0, 0, 0),
		"negative result":       function("f", nil, -1, 0),
		"result past the end":   function("f", nil, 2, 0),
		"huge result":           function("f", nil, most, 0),
		"least result":          function("f", []int{0}, least, 0, 0),
		"no table":              function("f", nil, 0),
		"no table of one":       function("f", []int{0}, 0),
		"short table":           function("f", []int{0}, 0, 0),
		"long table":            function("f", []int{0}, 0, 0, 0, 0),
		"table for no argument": function("f", nil, 0, 0, 0),
		"table of the result":   function("f", []int{0}, 1, 0, 0, 0),
		"table of a sum":        function("f", []int{0, 1}, 0, 0, 0, 0, 0, 0),
		"table one too short":   function("f", []int{0, 1}, 0, 0, 0, 0, 0, 0),
		"table one too long":    function("f", []int{0, 1}, 0, 0, 0, 0, 0, 0, 0, 0),
		"huge table":            function("f", []int{0, 1}, 0, make([]int, 100000)...),
		"value past the end":    function("f", []int{1}, 0, 0, 1, 2),
		"value far past it":     function("f", nil, 1, most),
		"negative value":        function("f", []int{0, 0}, 0, 0, 1, 0, -1),
		"least value":           function("f", nil, 0, least),
	}
}

// badSystems are systems that are not valid, each for one reason.
func badSystems() map[string]impl.System {
	list := map[string]impl.System{}
	constant := function("f", nil, 0, 0)
	for name, types := range badTypes() {
		list["types: "+name] = impl.System{Types: types}
		list["types with a function: "+name] = impl.System{Types: types, Functions: []impl.Function{constant}}
	}
	with := func(functions ...impl.Function) impl.System {
		return impl.System{Types: impl.Types{Sizes: []int{2, 3}, Coercions: []impl.Coercion{link(0, 1, 0, 2)}}, Functions: functions}
	}
	for name, f := range badFunctions() {
		list["function: "+name] = with(f)
		list["second function: "+name] = with(function("g", []int{0}, 0, 1, 0), f)
	}
	list["two without arguments"] = with(constant, constant)
	list["two that differ in results"] = with(constant, function("f", []int{}, 0, 1))
	list["two that differ in the type of the result"] = with(function("f", []int{1, 0}, 0, 0, 1, 0, 1, 0, 1), function("f", []int{1, 0}, 1, 2, 1, 2, 1, 2, 1))
	list["two, not beside each other"] = with(function("k", []int{0}, 0, 0, 1), constant, function("f", []int{0}, 0, 0, 1), function("k", []int{1}, 0, 0, 1, 0), function("k", []int{0}, 0, 0, 1))
	list["nine functions"] = impl.System{Types: impl.Types{Sizes: []int{1, 1, 1}}, Functions: []impl.Function{
		function("f", nil, 0, 0), function("g", nil, 0, 0), function("h", nil, 0, 0), function("i", nil, 0, 0), function("j", nil, 0, 0), function("k", nil, 0, 0),
		function("f", []int{0}, 0, 0), function("f", []int{1}, 0, 0), function("f", []int{2}, 0, 0),
	}}
	list["very many functions"] = with(make([]impl.Function, 100000)...)
	return list
}

func TestSystemValid(t *testing.T) {
	types := impl.Types{Sizes: []int{2, 3}, Coercions: []impl.Coercion{link(0, 1, 0, 2)}}
	for _, functions := range [][]impl.Function{
		nil,
		{},
		{function("f", nil, 0, 1)},
		{function("k", []int{}, 1, 2)},
		{function("g", []int{1}, 0, 1, 0, 1)},
		{function("h", []int{0, 1}, 1, 0, 1, 2, 2, 1, 0)},
		// One name with other arguments, and the same arguments with another name.
		{function("f", nil, 0, 1), function("f", []int{0}, 0, 1, 1), function("f", []int{1}, 0, 1, 1, 1), function("f", []int{0, 0}, 0, 1, 1, 1, 1)},
		{function("i", []int{0, 1}, 0, 1, 1, 1, 1, 1, 1), function("i", []int{1, 0}, 0, 1, 1, 1, 1, 1, 1)},
		{function("f", []int{0}, 0, 1, 1), function("g", []int{0}, 0, 1, 1), function("j", []int{0}, 0, 1, 1)},
		{function("f", nil, 0, 0), function("g", nil, 0, 0), function("h", nil, 0, 0), function("i", nil, 0, 0), function("j", nil, 0, 0), function("k", nil, 0, 0), function("k", []int{0}, 0, 0, 0), function("k", []int{1}, 0, 0, 0, 0)},
	} {
		if s := (impl.System{Types: types, Functions: functions}); !impl.SystemValid(s) {
			t.Errorf("SystemValid(%v) returns false", s)
		}
	}
	for name, s := range badSystems() {
		if impl.SystemValid(s) {
			t.Errorf("%s: SystemValid returns true", name)
		}
	}
}

// argumentLists are the types of arguments of all functions of two types.
func argumentLists() [][]int {
	return slices.Concat(rows(0, 0, 1), rows(1, 0, 1), rows(2, 0, 1))
}

// TestFunctionsOfOneName is promise 4: of one name, no two functions have the same arguments; all others may be together.
func TestFunctionsOfOneName(t *testing.T) {
	var functions []impl.Function
	for _, name := range []string{"f", "k"} {
		for _, args := range argumentLists() {
			for result := range 2 {
				functions = append(functions, function(name, args, result, 0))
			}
		}
	}
	for i, first := range functions {
		for k, second := range functions {
			// The pairs of functions that differ in their results alone stand beside each other.
			want := i/2 != k/2
			types := impl.Types{Sizes: []int{1, 1}}
			s := impl.System{Types: types, Functions: []impl.Function{first, second}}
			one := impl.System{Types: types, Functions: []impl.Function{first}}
			_, ok := impl.WithFunction(one, second)
			if impl.SystemValid(s) != want || ok != want || (impl.FormatSystem(s) != "") != want {
				t.Errorf("%v and %v: SystemValid does not return %v, or WithFunction returns %v", first, second, want, ok)
			}
		}
	}
}

func TestInvalidSystemsHaveNothing(t *testing.T) {
	for name, s := range badSystems() {
		for i := -1; i < 3; i++ {
			for _, values := range [][]int{nil, {0}, {0, 0}} {
				if got := impl.CallFunction(s, i, values); got != -1 {
					t.Errorf("%s: CallFunction(%d, %v) returns %d", name, i, values, got)
				}
			}
			if got := impl.SignatureOf(s, i); got != "" {
				t.Errorf("%s: SignatureOf(%d) returns %q", name, i, got)
			}
			for k := -1; k < 3; k++ {
				if impl.IsBelow(s, i, k) {
					t.Errorf("%s: IsBelow(%d, %d) returns true", name, i, k)
				}
			}
			for _, letter := range []string{"", "f", "g", "k", "ff"} {
				if got := impl.NamedOf(s, letter, i); len(got) != 0 {
					t.Errorf("%s: NamedOf(%q, %d) returns %v", name, letter, i, got)
				}
			}
		}
		if got := impl.FormatSystem(s); got != "" {
			t.Errorf("%s: FormatSystem returns %q", name, got)
		}
		if got, ok := impl.WithFunction(s, function("i", nil, 0, 0)); ok || !isZeroSystem(got) {
			t.Errorf("%s: WithFunction returns %v, %v", name, got, ok)
		}
	}
}

// checkCalls compares CallFunction for all short rows of values with the table of a function, taken in order.
func checkCalls(t *testing.T, s impl.System, i int) {
	t.Helper()
	f := s.Functions[i]
	next := 0
	for length := range impl.MaxArgs + 2 {
		// The rows are in the order in which the last number changes first.
		for _, values := range rows(length, -1, impl.MaxValues) {
			fits := length == len(f.Args)
			for place := 0; fits && place < length; place++ {
				fits = 0 <= values[place] && values[place] < s.Sizes[f.Args[place]]
			}
			want := -1
			if fits {
				want = f.Table[next]
				next++
			}
			if got := impl.CallFunction(s, i, values); got != want {
				t.Fatalf("%s: CallFunction(%d, %v) returns %d, not %d", impl.FormatSystem(s), i, values, got, want)
			}
		}
	}
	if next != len(f.Table) {
		t.Fatalf("%s: of the table of %d, %d results are called", impl.FormatSystem(s), i, next)
	}
}

func TestCallFunctionOfGivenSystems(t *testing.T) {
	for _, text := range goodSystems {
		s := systemOf(t, text)
		for i := range s.Functions {
			checkCalls(t, s, i)
		}
	}
}

func TestCallFunction(t *testing.T) {
	s := systemOf(t, "2 3 4 1;0>1:0 2;1>2:3 2 1/g(0,1)2:0 1 2 3 0 1/g(1,0)2:0 1 2 3 0 1/f(1)0:0 1 1/h()1:2/f(3,2)2:3 2 1 0/f(2,3)2:3 1 2 0")
	for _, c := range []struct {
		i      int
		values []int
		want   int
	}{
		// The last argument changes first, whichever one has more values.
		{0, []int{0, 0}, 0}, {0, []int{0, 1}, 1}, {0, []int{0, 2}, 2}, {0, []int{1, 0}, 3}, {0, []int{1, 1}, 0}, {0, []int{1, 2}, 1},
		{1, []int{0, 0}, 0}, {1, []int{0, 1}, 1}, {1, []int{1, 0}, 2}, {1, []int{1, 1}, 3}, {1, []int{2, 0}, 0}, {1, []int{2, 1}, 1},
		{4, []int{0, 3}, 0}, {5, []int{3, 0}, 0}, {4, []int{0, 1}, 2}, {5, []int{1, 0}, 1},
		{2, []int{0}, 0}, {2, []int{2}, 1},
		// Without arguments there is one result.
		{3, nil, 2}, {3, []int{}, 2}, {3, []int{0}, -1}, {3, []int{2}, -1},
		// Values of the other argument's type, and too few or too many of them.
		{0, []int{2, 0}, -1}, {0, []int{2, 1}, -1}, {1, []int{0, 2}, -1}, {1, []int{3, 0}, -1}, {0, []int{0, 3}, -1}, {4, []int{1, 0}, -1},
		{0, nil, -1}, {0, []int{0}, -1}, {0, []int{5}, -1}, {0, []int{0, 0, 0}, -1}, {2, nil, -1}, {2, []int{0, 0}, -1},
		{0, []int{-1, 0}, -1}, {0, []int{0, -1}, -1}, {0, []int{1, -1}, -1}, {0, []int{-1, 3}, -1}, {2, []int{-1}, -1}, {2, []int{3}, -1},
		{2, []int{most}, -1}, {2, []int{least}, -1}, {0, []int{most, 0}, -1}, {0, []int{0, least}, -1}, {0, make([]int, 100000), -1},
		// No function.
		{-1, nil, -1}, {6, nil, -1}, {6, []int{0}, -1}, {most, nil, -1}, {least, []int{0, 0}, -1},
	} {
		if got := impl.CallFunction(s, c.i, c.values); got != c.want {
			t.Errorf("CallFunction(%d, %.10v) returns %d, not %d", c.i, c.values, got, c.want)
		}
	}
}

func TestSignatureOf(t *testing.T) {
	s := systemOf(t, eightFunctions)
	for i, want := range []string{"f(0,4)4", "f(4,0)1", "k()4", "k(3)3", "f(1)2", "f(2)2", "f(1,1)0", "f(2,1)3"} {
		if got := impl.SignatureOf(s, i); got != want {
			t.Errorf("SignatureOf(%d) returns %q, not %q", i, got, want)
		}
	}
	for _, i := range []int{-1, 8, most, least} {
		if got := impl.SignatureOf(s, i); got != "" {
			t.Errorf("SignatureOf(%d) returns %q", i, got)
		}
	}
	if got := impl.SignatureOf(systemOf(t, "2 2"), 0); got != "" {
		t.Errorf("SignatureOf(0) of no functions returns %q", got)
	}
}

func TestNamedOf(t *testing.T) {
	s := systemOf(t, eightFunctions)
	for _, c := range []struct {
		name string
		args int
		want []int
	}{
		{"f", 0, nil}, {"f", 1, []int{4, 5}}, {"f", 2, []int{0, 1, 6, 7}}, {"f", 3, nil},
		{"k", 0, []int{2}}, {"k", 1, []int{3}}, {"k", 2, nil},
		{"g", 0, nil}, {"g", 1, nil}, {"", 0, nil}, {"", 1, nil}, {"e", 1, nil}, {"F", 1, nil}, {"ff", 2, nil}, {"f(1)2", 1, nil}, {"\xff", 1, nil},
		{"f", -1, nil}, {"k", -1, nil}, {"f", most, nil}, {"k", least, nil},
	} {
		if got := impl.NamedOf(s, c.name, c.args); !slices.Equal(got, c.want) {
			t.Errorf("NamedOf(%q, %d) returns %v, not %v", c.name, c.args, got, c.want)
		}
	}
	for _, name := range []string{"f", "g", "h", "i", "j", "k"} {
		if got := impl.NamedOf(systemOf(t, "2 2"), name, 0); len(got) != 0 {
			t.Errorf("NamedOf(%q, 0) of no functions returns %v", name, got)
		}
	}
}

// TestNamedOfAllFunctions checks that each function is among those of its name and number of arguments, and in no other list.
func TestNamedOfAllFunctions(t *testing.T) {
	for _, text := range goodSystems {
		s := systemOf(t, text)
		for _, name := range []string{"e", "f", "g", "h", "i", "j", "k", "l"} {
			for args := -1; args < 4; args++ {
				var want []int
				for i, f := range s.Functions {
					if f.Name == name && len(f.Args) == args {
						want = append(want, i)
					}
				}
				if got := impl.NamedOf(s, name, args); !slices.Equal(got, want) {
					t.Errorf("%s: NamedOf(%q, %d) returns %v, not %v", text, name, args, got, want)
				}
			}
		}
	}
}

func TestIsBelow(t *testing.T) {
	s := systemOf(t, "1 1 1 1;0>1:0;1>2:0/f(0)0:0/f(2)0:0/f(3)0:0/g(0)0:0/f()0:0/f(0,2)0:0/f(1,1)0:0/f(2,2)3:0")
	below := [][]int{{0, 1}, {1}, {2}, {3}, {4}, {5, 7}, {6, 7}, {7}}
	for i := range s.Functions {
		for k := range s.Functions {
			if want := slices.Contains(below[i], k); impl.IsBelow(s, i, k) != want {
				t.Errorf("IsBelow(%d, %d) does not return %v", i, k, want)
			}
		}
		for _, none := range []int{-1, 8, most, least} {
			if impl.IsBelow(s, i, none) || impl.IsBelow(s, none, i) || impl.IsBelow(s, none, none) {
				t.Errorf("IsBelow of %d and %d returns true", i, none)
			}
		}
	}
	// That of the document.
	s = systemOf(t, "2 3;0>1:0 1/f(0)0:1 0/f(1)1:1 0 2")
	if !impl.IsBelow(s, 0, 1) || impl.IsBelow(s, 1, 0) {
		t.Error("f(0)0 is not below f(1)1")
	}
	// Neither is below the other one, as one argument is and the other one is not.
	s = systemOf(t, "2 2;0>1:0 1/f(0,1)0:0 1 0 1/f(1,0)1:0 0 1 1")
	if impl.IsBelow(s, 0, 1) || impl.IsBelow(s, 1, 0) {
		t.Error("f(0,1)0 and f(1,0)1 are below each other")
	}
	// The types of the results do not matter, nor does it which function stands first.
	s = systemOf(t, "2 2 2;1>2:1 0/f(2)0:0 1/f(1)2:0 1")
	if !impl.IsBelow(s, 1, 0) || impl.IsBelow(s, 0, 1) {
		t.Error("f(1)2 is not below f(2)0")
	}
}

// checkBelow compares IsBelow with whether ways lead from each argument to that in its place.
func checkBelow(t *testing.T, s impl.System) {
	t.Helper()
	for i, f := range s.Functions {
		for k, g := range s.Functions {
			want := f.Name == g.Name && len(f.Args) == len(g.Args)
			for place := 0; want && place < len(f.Args); place++ {
				want = impl.CanCoerce(s.Types, f.Args[place], g.Args[place])
			}
			if impl.IsBelow(s, i, k) != want {
				t.Fatalf("%s: IsBelow(%d, %d) does not return %v", impl.FormatSystem(s), i, k, want)
			}
		}
	}
}

func TestWithFunction(t *testing.T) {
	const text = "2 3;0>1:0 2/f(0)0:1 0"
	s := systemOf(t, text)
	for want, f := range map[string]impl.Function{
		"/f()1:2":              function("f", nil, 1, 2),
		"/f(1)0:1 0 1":         function("f", []int{1}, 0, 1, 0, 1),
		"/g(0)0:1 0":           function("g", []int{0}, 0, 1, 0),
		"/f(0,0)1:2 1 0 2":     function("f", []int{0, 0}, 1, 2, 1, 0, 2),
		"/k(1,0)0:0 1 0 0 1 1": function("k", []int{1, 0}, 0, 0, 1, 0, 0, 1, 1),
	} {
		got, ok := impl.WithFunction(s, f)
		if back := impl.FormatSystem(got); !ok || back != text+want {
			t.Errorf("WithFunction(%v) returns %q, %v", f, back, ok)
			continue
		}
		if !sameFunction(got.Functions[1], f) {
			t.Errorf("WithFunction(%v) returns %v", f, got)
		}
	}
	for name, f := range badFunctions() {
		if got, ok := impl.WithFunction(s, f); ok || !isZeroSystem(got) {
			t.Errorf("%s: WithFunction returns %v, %v", name, got, ok)
		}
	}
	for _, f := range []impl.Function{function("f", []int{0}, 0, 1, 0), function("f", []int{0}, 0, 0, 0), function("f", []int{0}, 1, 2, 2)} {
		if got, ok := impl.WithFunction(s, f); ok || !isZeroSystem(got) {
			t.Errorf("WithFunction(%v) returns %v, %v", f, got, ok)
		}
	}
}

func TestWithFunctionUpToEight(t *testing.T) {
	s := systemOf(t, "1 1")
	want := "1 1"
	for i := range 9 {
		name := string(rune('f' + i%5))
		args := make([]int, i/5)
		more, ok := impl.WithFunction(s, function(name, args, 1, 0))
		if i == 8 {
			if ok || !isZeroSystem(more) {
				t.Errorf("a ninth function: %v, %v", more, ok)
			}
			break
		}
		want += "/" + name + []string{"()", "(0)"}[i/5] + "1:0"
		if !ok || impl.FormatSystem(more) != want {
			t.Fatalf("function %d: %v, %v", i, more, ok)
		}
		s = more
	}
}

func TestSystemsHaveTheirText(t *testing.T) {
	s := impl.System{
		Types: impl.Types{Sizes: []int{2, 3}, Coercions: []impl.Coercion{link(0, 1, 0, 2), link(0, 1, 1, 1)}},
		Functions: []impl.Function{
			function("k", []int{}, 1, 2),
			function("f", []int{1}, 0, 0, 1, 0),
			function("f", []int{1, 0}, 1, 0, 1, 2, 2, 1, 0),
			function("f", nil, 0, 1),
		},
	}
	const want = "2 3;0>1:0 2;0>1:1 1/k()1:2/f(1)0:0 1 0/f(1,0)1:0 1 2 2 1 0/f()0:1"
	if got := impl.FormatSystem(s); got != want {
		t.Errorf("FormatSystem returns %q, not %q", got, want)
	}
	got := systemOf(t, want)
	if impl.FormatTypes(got.Types) != impl.FormatTypes(s.Types) || !slices.EqualFunc(got.Functions, s.Functions, sameFunction) {
		t.Errorf("ParseSystem returns %v, not %v", got, s)
	}
	for _, text := range goodSystems {
		s := systemOf(t, text)
		types, functions, _ := strings.Cut(text, "/")
		if back := impl.FormatSystem(s); back != text || impl.FormatTypes(s.Types) != types || !impl.SystemValid(s) {
			t.Errorf("FormatSystem of ParseSystem(%q) returns %q", text, back)
		}
		for i, part := range strings.Split(functions, "/")[:len(s.Functions)] {
			if !strings.HasPrefix(part, impl.SignatureOf(s, i)+":") {
				t.Errorf("%s: SignatureOf(%d) returns %q", text, i, impl.SignatureOf(s, i))
			}
		}
	}
}

func TestParseSystemRefuses(t *testing.T) {
	for _, text := range []string{
		// Texts of which that of the types is none.
		"", " ", "/", "/f()0:0", "0/f()0:0", "5/f()0:0", "02/f()0:0", "1 1 1 1 1 1/f()0:0", "2 3;/f()0:0", "2 3;1>0:0 0 0/f()0:0", "2 3 /f()0:0", "2/f()0:0;0>1:0 1", "2 3/f()0:0;0>1:0 1",
		// No function, or not all of one.
		"2/", "2//", "2/f", "2/f(", "2/f()", "2/f()0", "2/f()0:", "2/f():0", "2/f()0:0/", "2/f()0:0//g()0:0", "2//f()0:0", "2/()0:0", "2/f(0", "2/f(0)", "2/f(0)0", "2/f(0)0:", "2/f0:0", "2/f)0:0", "2/f(0:0 0", "2/f(00:0 0",
		// No name.
		"2/e()0:0", "2/l()0:0", "2/F()0:0", "2/ff()0:0", "2/fg()0:0", "2/f ()0:0", "2/ f()0:0", "2/0()0:0", "2/\xe6()0:0", "2/f\x00()0:0", "2/ſ()0:0",
		// No arguments.
		"2/f(,)0:0", "2/f(0,)0:0 0", "2/f(,0)0:0 0", "2/f(0 0)0:0 0 0 0", "2/f(0, 0)0:0 0 0 0", "2/f(0,,0)0:0 0 0 0", "2/f( )0:0", "2/f(00)0:0 0", "2/f(1)0:0 0", "2/f(0,1)0:0 0 0 0", "2/f(-1)0:0 0", "2/f(0,0,0)0:0 0 0 0 0 0 0 0", "2/f(x)0:0 0", "2/f(())0:0", "2/f(10)0:0 0",
		// No type of the result.
		"2/f()1:0", "2/f()-1:0", "2/f()00:0", "2/f() 0:0", "2/f()0 :0", "2/f()x:0", "2/f()0;0", "2/f()18446744073709551616:0",
		// No table.
		"2/f()0:0 0", "2/f()0:2", "2/f()0:-1", "2/f()0: 0", "2/f()0:0 ", "2/f()0:0\n", "2/f()0:00", "2/f()0:01", "2/f()0:0,0", "2/f()0:0:0", "2/f()0:+0", "2/f(0)0:0", "2/f(0)0:0 0 0", "2/f(0)0:0 2", "2/f(0)0:0  0", "2/f(0)0:0,0", "2/f(0,0)0:0 0 0", "2/f(0,0)0:0 0 0 0 0", "2 3/f(0)1:0 1 2", "2 3/f(1)0:0 1 2",
		// Two of one name and the same arguments, and nine.
		"2/f()0:0/f()0:0", "2/f()0:0/f()0:1", "2 3/f()0:0/f()1:0", "2/f(0)0:0 0/f(0)0:1 1", "2 3/f(0,1)0:0 0 0 0 0 0/g()0:0/f(0,1)1:2 2 2 2 2 2", "2/f()0:0/g()0:0/h()0:0/i()0:0/j()0:0/k()0:0/f(0)0:0 0/f()0:0",
		"1/f()0:0/g()0:0/h()0:0/i()0:0/j()0:0/k()0:0/f(0)0:0/g(0)0:0/h(0)0:0",
		"1" + strings.Repeat("/f()0:0", 100000),
		"1/f(" + strings.Repeat("0,", 100000) + "0)0:0",
		"1/f()0:" + strings.Repeat("0 ", 100000) + "0",
	} {
		if got, ok := impl.ParseSystem(text); ok || !isZeroSystem(got) {
			t.Errorf("ParseSystem(%.60q) returns %v, %v", text, got, ok)
		}
	}
}

var functionForm = regexp.MustCompile(`^([f-k]\((?:[0-4](?:,[0-4])?)?\))([0-4]):([0-3](?: [0-3]){0,15})$`)

// isFunctionText tells by the form alone whether a text is one of a function of types of some sizes, each of one byte.
func isFunctionText(text string, sizes []string) bool {
	parts := functionForm.FindStringSubmatch(text)
	if parts == nil || int(parts[2][0]-'0') >= len(sizes) {
		return false
	}
	results := 1
	for _, kind := range strings.FieldsFunc(parts[1][2:len(parts[1])-1], func(sign rune) bool { return sign == ',' }) {
		if int(kind[0]-'0') >= len(sizes) {
			return false
		}
		results *= int(sizes[kind[0]-'0'][0] - '0')
	}
	table := strings.Split(parts[3], " ")
	size := sizes[parts[2][0]-'0']
	return len(table) == results && !slices.ContainsFunc(table, func(value string) bool { return value >= size })
}

// isSystemText tells by the form alone whether a text is one of a valid system.
func isSystemText(text string) bool {
	parts := strings.Split(text, "/")
	if len(parts) > 9 || !isTypesText(parts[0]) {
		return false
	}
	sizes := strings.Split(strings.Split(parts[0], ";")[0], " ")
	seen := map[string]bool{}
	for _, part := range parts[1:] {
		call, _, _ := strings.Cut(part, ")")
		if seen[call] || !isFunctionText(part, sizes) {
			return false
		}
		seen[call] = true
	}
	return true
}

// checkSystemText compares ParseSystem of a text with what the form of the text tells.
func checkSystemText(t *testing.T, text string) {
	t.Helper()
	s, ok := impl.ParseSystem(text)
	if ok != isSystemText(text) {
		t.Fatalf("ParseSystem(%q) returns %v", text, ok)
	}
	if back := impl.FormatSystem(s); ok && back != text || !ok && !isZeroSystem(s) {
		t.Fatalf("ParseSystem(%q) returns %v, of the text %q", text, s, back)
	}
}

// TestParseSystemOfEdits tries all texts that are nearly good ones.
func TestParseSystemOfEdits(t *testing.T) {
	for _, text := range goodSystems[len(goodTexts):] {
		for edit := range edits(text) {
			checkSystemText(t, edit)
		}
	}
}

// joined returns numbers in decimal with a sign between them.
func joined(list []int, sign string) string {
	var words []string
	for _, number := range list {
		words = append(words, strconv.Itoa(number))
	}
	return strings.Join(words, sign)
}

// functionText tells by the definition how a function stands in the text of a system.
func functionText(f impl.Function) string {
	return f.Name + "(" + joined(f.Args, ",") + ")" + strconv.Itoa(f.Result) + ":" + joined(f.Table, " ")
}

// someFunction returns a function of some types.
func someFunction(source *rand.Rand, types impl.Types) impl.Function {
	f := function(string(rune('f'+source.Intn(3))), nil, source.Intn(len(types.Sizes)))
	results := 1
	for range source.Intn(impl.MaxArgs + 1) {
		kind := source.Intn(len(types.Sizes))
		f.Args = append(f.Args, kind)
		results *= types.Sizes[kind]
	}
	for range results {
		f.Table = append(f.Table, source.Intn(types.Sizes[f.Result]))
	}
	return f
}

// TestManySystems adds pseudo-random functions of a fixed seed to types, as long as there may be more.
func TestManySystems(t *testing.T) {
	source := rand.New(rand.NewSource(4))
	refused := 0
	for n := range 150 {
		s := impl.System{Types: someTypes(source, n%9)}
		text := impl.FormatTypes(s.Types)
		seen := map[string]bool{}
		for range 12 {
			f := someFunction(source, s.Types)
			call := f.Name + joined(f.Args, ",")
			want := !seen[call] && len(seen) < impl.MaxFunctions
			more, ok := impl.WithFunction(s, f)
			if ok != want || !ok && !isZeroSystem(more) {
				t.Fatalf("%s: WithFunction(%v) returns %v, %v", text, f, more, ok)
			}
			if !ok {
				refused++
				continue
			}
			seen[call] = true
			s = more
			text += "/" + functionText(f)
			checkCalls(t, s, len(s.Functions)-1)
		}
		if impl.FormatSystem(s) != text {
			t.Fatalf("FormatSystem returns %q, not %q", impl.FormatSystem(s), text)
		}
		checkSystemText(t, text)
		checkBelow(t, s)
	}
	if refused < 300 {
		t.Errorf("%d functions are refused: too few", refused)
	}
}

func TestSystemsKeepTheirMemory(t *testing.T) {
	for _, text := range goodSystems {
		s := spareSystem(systemOf(t, text))
		table := spare(make([]int, s.Sizes[0]*s.Sizes[0])...)
		added := function("j", spare(0, 0), 0, table...)
		values := spare(0, 0)
		arguments := slices.Concat(systemCells(s), numberCells(added.Args), numberCells(added.Table), numberCells(values))
		before, names := numbersAt(arguments), namesAt(s)
		lists := [][]*int{arguments}
		for range 2 {
			more, _ := impl.WithFunction(s, added)
			parsed, _ := impl.ParseSystem(text)
			lists = append(lists, systemCells(more), systemCells(parsed))
			for args := range impl.MaxArgs + 1 {
				lists = append(lists, numberCells(impl.NamedOf(s, "f", args)))
			}
		}
		impl.WithFunction(s, function("f", spare(7), 0))
		for i := range len(s.Functions) + 1 {
			for length := range 3 {
				impl.CallFunction(s, i, values[:length])
			}
			impl.SignatureOf(s, i)
			impl.IsBelow(s, i, 0)
		}
		checkApart(t, lists...)
		if after := numbersAt(arguments); !slices.Equal(before, after) || !slices.Equal(names, namesAt(s)) {
			t.Errorf("%s: arguments were %v, %q and are %v, %q", text, before, names, after, namesAt(s))
		}
		if !impl.SystemValid(s) || impl.FormatSystem(s) != text {
			t.Errorf("%s: the text has become %q", text, impl.FormatSystem(s))
		}
	}
}

// TestSystemsAreApart overwrites a system from which another one was made, and one that was made.
func TestSystemsAreApart(t *testing.T) {
	const text = "2 3;0>1:0 1/f(0)0:1 0/f(1)1:1 0 2"
	const longer = text + "/g(0)1:2 1"
	s := systemOf(t, text)
	f := function("g", []int{0}, 1, 2, 1)
	first, _ := impl.WithFunction(s, f)
	second, _ := impl.WithFunction(s, f)
	third, _ := impl.WithFunction(s, function("h", nil, 0, 1))
	overwriteSystem(first)
	f.Args[0], f.Table[0] = -7, -7
	if got := impl.FormatSystem(s); got != text {
		t.Errorf("the argument has become %q", got)
	}
	overwriteSystem(s)
	if got := impl.FormatSystem(second); got != longer {
		t.Errorf("the second result has become %q", got)
	}
	if got := impl.FormatSystem(third); got != text+"/h()0:1" {
		t.Errorf("the third result has become %q", got)
	}
	list := impl.NamedOf(second, "f", 1)
	list[0] = -7
	if got := impl.NamedOf(second, "f", 1); !slices.Equal(got, []int{0, 1}) {
		t.Errorf("another list has become %v", got)
	}
}

// TestSystemsKeepNoState asks the same of systems between which others were asked about, and of one that has changed.
func TestSystemsKeepNoState(t *testing.T) {
	one, other := systemOf(t, "2 2;0>1:0 1/f(0)0:1 0/f(1)1:1 0"), systemOf(t, "2 2/f(0)1:0 1/g(1)0:1 1")
	for range 3 {
		if impl.CallFunction(one, 0, []int{0}) != 1 || impl.CallFunction(other, 0, []int{0}) != 0 || impl.SignatureOf(one, 0) != "f(0)0" || impl.SignatureOf(other, 0) != "f(0)1" {
			t.Fatal("an answer depends on another call")
		}
		if len(impl.NamedOf(one, "f", 1)) != 2 || len(impl.NamedOf(other, "f", 1)) != 1 || !impl.IsBelow(one, 0, 1) || impl.IsBelow(other, 0, 1) {
			t.Fatal("a list depends on another call")
		}
		impl.ParseSystem("2/f(0)0:")
	}
	one.Functions[0].Table[0], one.Functions[1].Name = 0, "g"
	if impl.CallFunction(one, 0, []int{0}) != 0 || len(impl.NamedOf(one, "f", 1)) != 1 || impl.IsBelow(one, 0, 1) {
		t.Fatal("an answer is about a system as it was")
	}
}

// TestSystemsTogether asks about the same system at the same time; it is for the race detector too.
func TestSystemsTogether(t *testing.T) {
	s := systemOf(t, eightFunctions)
	done := make(chan bool)
	for range 8 {
		go func() {
			good := impl.FormatSystem(s) == eightFunctions && slices.Equal(impl.NamedOf(s, "f", 2), []int{0, 1, 6, 7}) && !impl.IsBelow(s, 0, 1)
			for i, f := range s.Functions {
				good = good && impl.CallFunction(s, i, make([]int, len(f.Args))) == f.Table[0]
			}
			done <- good
		}()
	}
	for range 8 {
		if !<-done {
			t.Error("answers differ")
		}
	}
}
