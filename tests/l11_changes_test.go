package tests

import (
	"math/rand"
	"runtime"
	"slices"
	"strconv"
	"strings"
	"testing"

	"loop.example/overloads/impl"
)

// readFunction returns the function of a text as it stands behind `/` in the text of a system with some types.
func readFunction(t *testing.T, types impl.Types, text string) impl.Function {
	t.Helper()
	return systemOf(t, impl.FormatTypes(types)+"/"+text).Functions[0]
}

// readCoercion returns the coercion of a text as it stands behind `;` in the text of some types.
func readCoercion(t *testing.T, types impl.Types, text string) impl.Coercion {
	t.Helper()
	sizes, _, _ := strings.Cut(impl.FormatTypes(types), ";")
	return typesOf(t, sizes+";"+text).Coercions[0]
}

// checkFate compares what is told of a term with what is wanted, alone and in a list.
func checkFate(t *testing.T, s impl.System, u impl.System, term string, want string) {
	t.Helper()
	if got := impl.CompareTerm(s, u, term); got != want {
		t.Errorf("from %s to %s: CompareTerm(%.80q) returns %q, not %q", impl.FormatSystem(s), impl.FormatSystem(u), term, got, want)
	}
	var broken []int
	if want == "lost" || want == "changed" {
		broken = []int{0}
	}
	if got := impl.BrokenOf(s, u, []string{term}); !slices.Equal(got, broken) {
		t.Errorf("from %s to %s: BrokenOf(%.80q) returns %v, but it is %q", impl.FormatSystem(s), impl.FormatSystem(u), term, got, want)
	}
}

// checkFates has some terms, each told with what becomes of it, as `f(0:1) same`.
func checkFates(t *testing.T, from string, to string, fates ...string) {
	t.Helper()
	for _, told := range fates {
		term, want, _ := strings.Cut(told, " ")
		checkFate(t, systemOf(t, from), systemOf(t, to), term, want)
	}
}

// fateByDefinition tells what becomes of a term when a valid system becomes another one.
func fateByDefinition(s impl.System, u impl.System, n tree) string {
	before, after := elaborateByDefinition(s, n), elaborateByDefinition(u, n)
	switch {
	case before.why != "ok" && after.why != "ok":
		return "none"
	case before.why != "ok":
		return "gained"
	case after.why != "ok":
		return "lost"
	}
	list, _ := impl.WaysOf(u.Types, after.kind, before.kind)
	if len(list) == 0 {
		return "changed"
	}
	shortest := slices.MinFunc(list, func(a []int, b []int) int { return len(a) - len(b) })
	if runByDefinition(u, wrapped(after.made, shortest)).value != runByDefinition(s, before.made).value {
		return "changed"
	}
	return "same"
}

// TestChangesExample has the system of the example of chapter 11, and those of the example of chapter 12.
func TestChangesExample(t *testing.T) {
	const types = "2 3;0>1:0 1"
	checkRunTerm(t, systemOf(t, types+"/f(1)1:1 0 2"), "f(0:0)", termRun{1, 1, "ok", []int{-1, 1}})
	checkRunTerm(t, systemOf(t, types+"/f(1)1:1 0 2/f(0)0:1 0"), "f(0:0)", termRun{1, 0, "ok", []int{1, 1}})
	checkFates(t, types+"/f(1)1:1 0 2", types+"/f(1)1:1 0 2/f(0)0:1 0", "f(0:0) same", "f(0:1) same", "f(1:2) same", "f(f(0:1)) same")
	const text = types + "/f(1)1:1 0 2/g(1,1)1:0 0 0 0 1 0 0 0 2"
	s := systemOf(t, text)
	more := systemOf(t, text+"/f(0)0:1 0")
	checkFate(t, s, more, "f(0:1)", "same")
	if !impl.IsNeeded(more, 2) {
		t.Error("f(0)0 is not needed")
	}
	if got, ok := impl.AddCoercion(more, link(0, 1, 1, 0)); !ok || impl.FormatSystem(got) != types+";0>1:1 0/f(1)1:1 0 2/g(1,1)1:0 0 0 0 1 0 0 0 2/f(0)0:1 0" {
		t.Errorf("AddCoercion returns %q, %v", impl.FormatSystem(got), ok)
	}
	if got, ok := impl.DropFunction(more, 2); !ok || impl.FormatSystem(got) != text {
		t.Errorf("DropFunction returns %q, %v", impl.FormatSystem(got), ok)
	}
	if got, ok := impl.GoodPart(systemOf(t, text+"/f(0)0:0 0")); !ok || impl.FormatSystem(got) != text {
		t.Errorf("GoodPart returns %q, %v", impl.FormatSystem(got), ok)
	}
	if f := function("f", []int{0}, 0, 1, 0); !impl.CanAdd(s, f) || impl.CanAdd(more, f) || impl.CanAdd(s, function("f", []int{0}, 0, 0, 0)) {
		t.Error("CanAdd")
	}
	if impl.CanLink(s, link(0, 1, 1, 0)) || !impl.CanLink(s, link(0, 1, 0, 1)) {
		t.Error("CanLink")
	}
}

func TestFatesOfTheSameSystem(t *testing.T) {
	checkFates(t, mixed, mixed,
		"0:1 same", "1:2 same", "2:1 same", "h() same", "f(0:1) same", "f(1:2) same", "g(f(0:1),1:2) same", "k(h(),g(h(),h())) same",
		"k(0:0,0:0) none", "f(f(1:1)) none", "j(0:0) none", "0:2 none", "9:9 none", " none", "x none", "f(0:0 none", "@3() none", "#0(0:1) none")
}

func TestFatesOfAnotherType(t *testing.T) {
	// An earlier type, from which the value is coerced: it counts what it is then, not which number it is before.
	checkFates(t, "2 2;0>1:1 0/f(1)1:0 1", "2 2;0>1:1 0/f(1)1:0 1/f(0)0:0 1", "f(0:0) same", "f(0:1) same")
	checkFates(t, "2 2;0>1:1 0/f(1)1:0 1", "2 2;0>1:1 0/f(1)1:0 1/f(0)0:1 0", "f(0:0) changed", "f(0:1) changed", "f(1:0) same")
	checkFates(t, "2 2;0>1:1 0/f(1)1:0 1", "2 2;0>1:1 0/f(1)1:0 1/f(0)0:1 1", "f(0:0) changed", "f(0:1) same")
	checkFates(t, "2 1;0>1:0 0/f(1)1:0", "2 1;0>1:0 0/f(1)1:0/f(0)0:1 0", "f(0:0) same", "f(0:1) same")
	// A later type, and one beside it: no way leads back, whatever the value is.
	checkFates(t, "1 1;0>1:0/f(0)0:0", "1 1;0>1:0/f(0)1:0", "f(0:0) changed", "f(f(0:0)) lost")
	checkFates(t, "1 1;0>1:0/f(0)1:0", "1 1;0>1:0/f(0)0:0", "f(0:0) same", "f(f(0:0)) gained")
	checkFates(t, "1 1/f(0)1:0", "1 1/f(0)0:0", "f(0:0) changed")
	checkFates(t, "1 1/f(0)0:0", "1 1/f(0)1:0", "f(0:0) changed")
	checkFates(t, "1 1 1;0>1:0;0>2:0/f(0)2:0", "1 1 1;0>1:0;0>2:0/f(0)1:0", "f(0:0) changed")
	// The first one of the shortest ways, where ways do not agree.
	checkFates(t, "2 2/f(0)1:0 1", "2 2;0>1:0 1;0>1:1 0/f(0)0:0 1", "f(0:0) same", "f(0:1) same")
	checkFates(t, "2 2/f(0)1:0 1", "2 2;0>1:1 0;0>1:0 1/f(0)0:0 1", "f(0:0) changed", "f(0:1) changed")
	checkFates(t, "2 2 2/f(0)2:0 1", "2 2 2;0>1:0 1;1>2:1 0;0>2:0 1/f(0)0:0 1", "f(0:0) same", "f(0:1) same")
	checkFates(t, "2 2 2/f(0)2:0 1", "2 2 2;0>1:0 1;1>2:0 1;0>2:1 0/f(0)0:0 1", "f(0:0) changed", "f(0:1) changed")
	checkFates(t, "2 2 2/f(0)2:0 1", "2 2 2;0>1:0 1;1>2:1 0/f(0)0:1 0", "f(0:0) same", "f(0:1) same")
}

func TestFatesOfOtherValues(t *testing.T) {
	checkFates(t, "2/f(0)0:0 1", "2/f(0)0:1 1", "f(0:0) changed", "f(0:1) same", "0:0 same")
	checkFates(t, "2/f(0)0:0 1/h()0:0", "2/f(0)0:0 1/h()0:1", "h() changed", "f(h()) changed", "f(0:0) same")
	checkFates(t, "2/f(0)0:0 1/h()0:0", "2/f(0)0:1 1/h()0:1", "h() changed", "f(h()) changed", "f(f(h())) changed", "f(0:1) same")
	checkFates(t, "2/f(0)0:0 0/h()0:0", "2/f(0)0:0 0/h()0:1", "h() changed", "f(h()) same")
	checkFates(t, "2 2;0>1:0 1/f(1)1:0 1", "2 2;0>1:1 0/f(1)1:0 1", "f(0:0) changed", "f(1:0) same", "0:0 same")
	// Another order of functions and of coercions is no change, if the first one of the shortest ways does the same.
	checkFates(t, "2 2;0>1:0 1;0>1:1 0/f(1)1:1 0/g(0)0:1 0", "2 2;0>1:0 1;0>1:1 0/g(0)0:1 0/f(1)1:1 0", "f(g(0:0)) same", "f(0:0) same")
	checkFates(t, "2 2;0>1:0 1;0>1:1 0/f(1)1:1 0/g(0)0:1 0", "2 2;0>1:1 0;0>1:0 1/f(1)1:1 0/g(0)0:1 0", "f(g(0:0)) changed", "f(0:0) changed", "g(0:0) same")
	// Another type of an argument changes which function is called.
	checkFates(t, "2 2;0>1:0 1/f(1)1:0 1/g(0)0:0 0/g(1)1:1 1", "2 2;0>1:0 1/f(1)1:0 1/g(0)0:0 0/g(1)1:1 1/f(0)0:0 1", "f(0:0) same", "g(f(0:0)) changed", "g(f(1:0)) same")
}

func TestFatesGainedLostNone(t *testing.T) {
	checkFates(t, "2", "2/h()0:1", "h() gained", "f() none", "0:1 same", "h(0:1) none")
	checkFates(t, "2/h()0:1", "2", "h() lost", "f() none", "0:1 same", "h(0:1) none")
	checkFates(t, "2/h()0:1", "2/h()0:1/f(0)0:0 1", "f(h()) gained", "f(0:2) none", "f(f()) none")
	checkFates(t, "2/h()0:1/f(0)0:0 1", "2/f(0)0:0 1", "f(h()) lost", "f(0:1) same")
	// Only one of the functions is there in each system.
	checkFates(t, "2/h()0:1", "2/f(0)0:0 1", "f(h()) none", "h() lost", "f(0:1) gained")
	// Too many functions, none, and values that are not there, in any mixture.
	const two = "2 2;0>1:0 1/f(0,1)0:0 1 0 1/f(1,0)1:0 0 1 1"
	checkFates(t, two+"/f(0,0)0:0 0 0 1", two, "f(0:0,0:0) lost", "f(0:0,1:0) same")
	checkFates(t, two, two+"/f(0,0)0:0 0 0 1", "f(0:0,0:0) gained", "f(0:0,1:0) same")
	checkFates(t, two, "2 2;0>1:0 1", "f(0:0,0:0) none", "f(0:0,1:0) lost")
	checkFates(t, two, "1 1", "f(0:1,0:1) none", "f(0:0,0:0) none", "f(0:1,1:1) lost")
	checkFates(t, two, "2 2/f(0,1)0:0 1 0 1", "f(0:1,0:1) none", "f(0:0,1:1) same", "f(1:0,0:1) lost")
	// A coercion that a call needs.
	checkFates(t, "2 2;0>1:0 1/f(1)1:0 1", "2 2/f(1)1:0 1", "f(0:0) lost", "f(1:0) same")
	checkFates(t, "2 2/f(1)1:0 1", "2 2;0>1:0 1/f(1)1:0 1", "f(0:0) gained", "f(1:0) same")
	// A coercion that leaves a call without one function.
	checkFates(t, "1 1 1;0>1:0/f(1)0:0/f(2)0:0", "1 1 1;0>1:0;0>2:0/f(1)0:0/f(2)0:0", "f(0:0) lost", "f(1:0) same", "f(2:0) same")
}

// TestFatesInFunctionsThatMakeUp drops functions that others make up for: for all arguments, for some, and for none.
func TestFatesInFunctionsThatMakeUp(t *testing.T) {
	const types = "2 3;0>1:0 1"
	for _, c := range []struct {
		from  string
		i     int
		fates []string
	}{
		{"/f(0)1:1 0/f(1)1:1 0 2", 0, []string{"f(0:0) same", "f(0:1) same", "f(1:0) same", "f(1:2) same", "f(f(0:0)) same"}},
		{"/f(0)1:1 0/f(1)1:1 0 2", 1, []string{"f(0:0) same", "f(0:1) same", "f(1:0) lost", "f(1:2) lost", "f(f(0:0)) lost"}},
		{"/f(0)1:1 2/f(1)1:1 0 2", 0, []string{"f(0:0) same", "f(0:1) changed", "f(1:1) same"}},
		{"/f(0)0:1 0/f(1)1:1 0 2", 0, []string{"f(0:0) changed", "f(0:1) changed", "f(1:1) same"}},
		{"/f(0)0:1 0/f(1)1:1 0 2/g(1)1:0 2 0", 0, []string{"g(f(0:0)) same", "g(f(0:1)) same"}},
		{"/f(0)0:1 0/f(1)1:1 0 2/g(1)1:0 2 0/g(0)0:0 0", 0, []string{"g(f(0:0)) changed", "g(f(0:1)) changed"}},
		{"/f(0,0)1:0 0 0 1/f(0,1)1:0 0 0 0 1 0/f(1,0)1:0 0 0 1 0 0", 0, []string{"f(0:1,0:1) lost", "f(0:1,1:1) same"}},
		{"/f(0,0)1:0 0 0 1/f(0,1)1:0 0 0 0 1 0/f(1,0)1:0 0 0 1 0 0", 1, []string{"f(0:1,0:1) same", "f(0:1,1:1) lost", "f(1:1,0:1) same"}},
	} {
		s := systemOf(t, types+c.from)
		u, ok := impl.DropFunction(s, c.i)
		if !ok {
			t.Fatalf("%s: DropFunction(%d) returns false", c.from, c.i)
		}
		checkFates(t, types+c.from, impl.FormatSystem(u), c.fates...)
	}
}

// TestFatesInOtherTypes has systems whose types have other sizes, and that are fewer or more than those of the first one.
func TestFatesInOtherTypes(t *testing.T) {
	checkFates(t, "2 3", "3 2", "0:1 same", "0:2 gained", "1:1 same", "1:2 lost", "2:0 none")
	checkFates(t, "1", "4 4 4 4 4", "0:0 same", "0:3 gained", "4:3 gained", "4:4 none")
	checkFates(t, "4 4 4 4 4", "1", "0:0 same", "0:3 lost", "4:3 lost", "4:4 none")
	// The type that the term had is none, or one with other values.
	checkFates(t, "1 2/f(0)1:1", "1/f(0)0:0", "f(0:0) changed")
	checkFates(t, "1 1 1 1 1/f(0)4:0", "1 1 1 1/f(0)3:0", "f(0:0) changed")
	checkFates(t, "1/f(0)0:0", "1 2/f(0)1:1", "f(0:0) changed")
	checkFates(t, "1 2/f(0)1:1", "1 4/f(0)1:1", "f(0:0) same")
	checkFates(t, "1 2/f(0)1:1", "1 4/f(0)1:3", "f(0:0) changed")
	checkFates(t, "2 4/f(0)1:3 1", "2 2;0>1:1 0/f(0)0:0 0", "f(0:0) changed", "f(0:1) same")
	// A way to the type that the term had leads only in the second system, or only in the first one.
	checkFates(t, "1 2/f(0)1:1", "2 2;0>1:0 1/f(0)0:1 0", "f(0:0) same", "f(0:1) gained")
	checkFates(t, "1 2;0>1:1/f(0)1:1", "1 2/f(0)0:0", "f(0:0) changed")
}

func TestFatesInSystemsThatAreNotValid(t *testing.T) {
	bad := badSystems()
	bad["zero value"] = impl.System{}
	s := systemOf(t, "2 3;0>1:0 2/f()0:0/f(0)0:1 0")
	for reason, u := range bad {
		for _, term := range []string{"0:0", "1:2", "f()", "f(0:1)", "f(f())"} {
			checkFate(t, s, u, term, "lost")
			checkFate(t, u, s, term, "gained")
			checkFate(t, u, u, term, "none")
		}
		for _, term := range []string{"", "x", "0:9", "k()"} {
			checkFate(t, s, u, term, "none")
			checkFate(t, u, s, term, "none")
		}
		if t.Failed() {
			t.Fatal(reason)
		}
	}
}

// TestFatesOfTextsThatAreNoTerms has texts of any length and with any bytes.
func TestFatesOfTextsThatAreNoTerms(t *testing.T) {
	s := systemOf(t, "2/f(0)0:1 0")
	u := systemOf(t, "2/f(0)0:1 1")
	longest := strings.Repeat("f(", 19) + "0:1" + strings.Repeat(")", 19)
	checkFate(t, s, u, longest, "changed")
	checkFate(t, s, s, longest, "same")
	for _, text := range []string{"", " ", "f", "f(", "f(0:0", "f(0:0) ", " f(0:0)", "f(0:0)\x00", "\xff", "f(0:0,)", "f(0:0,0:0,0:0)", "f(" + longest + ")", strings.Repeat("f", 1000000)} {
		checkFate(t, s, u, text, "none")
	}
	for edit := range edits("f(0:0)") {
		want := "none"
		switch edit {
		case "f(0:0)":
			want = "same"
		case "f(0:1)":
			want = "changed"
		}
		checkFate(t, s, u, edit, want)
		if t.Failed() {
			t.FailNow()
		}
	}
}

func TestBrokenOf(t *testing.T) {
	s := systemOf(t, "2 3;0>1:0 1/f(1)1:1 0 2/g(0)0:0 0")
	u := systemOf(t, "2 3;0>1:0 1/f(1)1:1 0 2/f(0)0:0 0/h()0:1")
	for _, c := range []struct {
		terms []string
		want  []int
	}{
		{nil, nil},
		{[]string{}, nil},
		{[]string{"f(0:1)"}, nil},
		{[]string{"f(0:0)"}, []int{0}},
		{[]string{"f(0:1)", "f(0:0)", "h()", "g(0:0)", "0:1", ""}, []int{1, 3}},
		{[]string{"f(0:0)", "f(0:0)", "f(0:1)", "f(0:0)"}, []int{0, 1, 3}},
		{[]string{"g(0:0)", "g(0:1)", "f(0:0)"}, []int{0, 1, 2}},
		{[]string{"", "x", "h()", "k()", "1:2", "9:9", "g()", "@0(1:0)"}, nil},
		{[]string{"", "g(0:0", "g(0:0)", "g(0:0))"}, []int{2}},
	} {
		if got := impl.BrokenOf(s, u, c.terms); !slices.Equal(got, c.want) {
			t.Errorf("BrokenOf(%q) returns %v, not %v", c.terms, got, c.want)
		}
	}
	if got := impl.BrokenOf(u, s, []string{"h()", "f(0:1)", "g(0:0)", "f(1:0)", "f(0:0)"}); !slices.Equal(got, []int{0, 1, 4}) {
		t.Errorf("BrokenOf the other way round returns %v", got)
	}
	if got := impl.BrokenOf(s, impl.System{}, []string{"h()", "f(0:1)", "9:9", "1:0"}); !slices.Equal(got, []int{1, 3}) {
		t.Errorf("BrokenOf a system that becomes none returns %v", got)
	}
	if got := impl.BrokenOf(impl.System{}, s, []string{"h()", "f(0:1)", "9:9", "1:0"}); len(got) != 0 {
		t.Errorf("BrokenOf what was no system returns %v", got)
	}
}

// TestBrokenOfLongLists has lists of any length, in which every third term is changed and every seventh one lost.
func TestBrokenOfLongLists(t *testing.T) {
	s, u := systemOf(t, "2/f(0)0:0 1/h()0:1"), systemOf(t, "2/f(0)0:0 0")
	var terms []string
	var want []int
	for i := range 3000 {
		term := "f(0:0)"
		if i%3 == 2 {
			term = "f(0:1)"
		}
		if i%7 == 0 {
			term = "f(h())"
		}
		terms = append(terms, term)
		if term != "f(0:0)" {
			want = append(want, i)
		}
		if i > 450 && i%500 > 0 {
			continue
		}
		if got := impl.BrokenOf(s, u, terms); !slices.Equal(got, want) {
			t.Fatalf("BrokenOf %d terms returns %v, not %v", len(terms), got, want)
		}
	}
}

// TestFatesManySystems compares what becomes of pseudo-random terms of a fixed seed with the definition: between systems
// that differ in a function, in a result, in a coercion or in a size, and between any two.
func TestFatesManySystems(t *testing.T) {
	source := rand.New(rand.NewSource(110))
	seen := map[string]int{}
	for n := range 150 {
		s := someSystem(source, 3+n%6, 1+n%3)
		u := systemOf(t, impl.FormatSystem(s))
		switch n % 5 {
		case 0:
			u, _ = impl.DropFunction(s, source.Intn(len(s.Functions)))
		case 1:
			f := u.Functions[source.Intn(len(u.Functions))]
			f.Table[source.Intn(len(f.Table))] = source.Intn(u.Sizes[f.Result])
		case 2:
			u.Types, _ = impl.WithoutCoercion(u.Types, source.Intn(len(u.Coercions)))
		case 3:
			u.Functions = slices.Clone(s.Functions[len(s.Functions)/2:])
			for i := range u.Functions {
				// Results of a type with as many values.
				kind := source.Intn(len(u.Sizes))
				if u.Sizes[kind] >= u.Sizes[u.Functions[i].Result] {
					u.Functions[i].Result = kind
				}
			}
		case 4:
			u = someSystem(source, 3+n%6, 1+n%3)
		}
		if !impl.SystemValid(u) {
			t.Fatalf("%v is not valid", u)
		}
		for _, pair := range [][]impl.System{{s, u}, {u, s}} {
			var terms []string
			var broken []int
			for i := range 40 {
				term := someTree(source, 3+source.Intn(20))
				fit(source, pair[i%2], &term)
				want := fateByDefinition(pair[0], pair[1], term)
				checkFate(t, pair[0], pair[1], term.text(), want)
				terms = append(terms, term.text())
				if want == "lost" || want == "changed" {
					broken = append(broken, i)
				}
				seen[want]++
				if want == "same" || want == "changed" {
					before, after := impl.TypeOf(pair[0], term.text()), impl.TypeOf(pair[1], term.text())
					seen[want+", another type "+strconv.FormatBool(before != after)]++
				}
			}
			if got := impl.BrokenOf(pair[0], pair[1], terms); !slices.Equal(got, broken) {
				t.Errorf("from %s to %s: BrokenOf(%q) returns %v, not %v", impl.FormatSystem(pair[0]), impl.FormatSystem(pair[1]), terms, got, broken)
			}
			if t.Failed() {
				t.FailNow()
			}
		}
	}
	checkSeen(t, seen, 30, "same", "changed", "gained", "lost", "none", "same, another type true", "same, another type false", "changed, another type true", "changed, another type false")
}

// canAddByDefinition tells whether a system is good, and with a function too.
func canAddByDefinition(s impl.System, f impl.Function) bool {
	more, ok := impl.WithFunction(s, f)
	return ok && judgedByDefinition(s) == (judgement{}) && judgedByDefinition(more) == (judgement{})
}

// canLinkByDefinition tells whether a system is good, and with a coercion too.
func canLinkByDefinition(s impl.System, c impl.Coercion) bool {
	types, ok := impl.WithCoercion(s.Types, c)
	return ok && judgedByDefinition(s) == (judgement{}) && judgedByDefinition(impl.System{Types: types, Functions: s.Functions}) == (judgement{})
}

func TestCanAdd(t *testing.T) {
	for _, c := range []struct {
		text string
		add  string
		want bool
	}{
		{"1", "f()0:0", true},
		{"1", "k(0,0)0:0", true},
		{"2 3;0>1:0 2", "f(0)1:2 1", true},
		// It is there already, with the same results or with others.
		{"1/f()0:0", "f()0:0", false},
		{"2/f()0:0", "f()0:1", false},
		{"2 2/f()0:0", "f()1:0", false},
		{"2 3;0>1:0 1/f(0)0:1 0", "f(0)0:1 0", false},
		{"2 3;0>1:0 1/f(0)0:1 0", "g(0)0:1 0", true},
		{"2 3;0>1:0 1/f(0)0:1 0", "f(0,0)0:1 0 0 1", true},
		// Below and above one that is there: with the same results, with others, with such as can't be coerced.
		{"2 3;0>1:0 1/f(1)1:1 0 2", "f(0)0:1 0", true},
		{"2 3;0>1:0 1/f(1)1:1 0 2", "f(0)1:1 0", true},
		{"2 3;0>1:0 1/f(1)1:1 0 2", "f(0)0:0 0", false},
		{"2 3;0>1:0 1/f(1)1:1 0 2", "f(0)1:1 2", false},
		{"2 3;0>1:0 1/f(0)0:1 0", "f(1)1:1 0 0", true},
		{"2 3;0>1:0 1/f(0)0:1 0", "f(1)1:1 0 2", true},
		{"2 3;0>1:0 1/f(0)0:1 0", "f(1)1:0 1 2", false},
		{"1 1;0>1:0/f(1)0:0", "f(0)1:0", false},
		{"1 1;0>1:0/f(0)1:0", "f(1)0:0", false},
		{"1 1 1;0>1:0/f(1)2:0", "f(0)0:0", false},
		// A call that two functions are applicable to, without and with one below both.
		{"1 1;0>1:0/f(0,1)0:0", "f(1,0)0:0", false},
		{"1 1;0>1:0/f(0,1)0:0/f(0,0)0:0", "f(1,0)0:0", true},
		{"1 1 1;0>1:0;0>2:0/f(1)0:0", "f(2)0:0", false},
		{"1 1 1;0>1:0;0>2:0/f(1)0:0", "f(0)0:0", true},
		{"1 1 1;0>1:0;0>2:0/f(1)0:0/f(0)0:0", "f(2)0:0", true},
		{"1 1 1;0>1:0;0>2:0/f(1)0:0", "g(2)0:0", true},
		// A system that is not good, though with the function it is; others are not with it either.
		{"1 1;0>1:0/f(0,1)0:0/f(1,0)0:0", "f(0,0)0:0", false},
		{"1 1;0>1:0/f(0,1)0:0/f(1,0)0:0", "g(0,0)0:0", false},
		{"2 2;0>1:0 1;0>1:1 0", "f()0:0", false},
		{"2 2;0>1:0 1/f(0)0:0 1/f(1)1:1 1", "g()0:0", false},
		// As many functions as there may be, and one more.
		{"1/f()0:0/g()0:0/h()0:0/i()0:0/j()0:0/k()0:0/f(0)0:0", "g(0)0:0", true},
		{"1/f()0:0/g()0:0/h()0:0/i()0:0/j()0:0/k()0:0/f(0)0:0/g(0)0:0", "h(0)0:0", false},
	} {
		s := systemOf(t, c.text)
		f := readFunction(t, s.Types, c.add)
		if got := impl.CanAdd(s, f); got != c.want || canAddByDefinition(s, f) != c.want {
			t.Errorf("%s: CanAdd(%s) returns %v, by the definition %v", c.text, c.add, got, canAddByDefinition(s, f))
		}
	}
	s := systemOf(t, "2 3;0>1:0 2/k(0)0:0 0")
	for reason, f := range badFunctions() {
		if impl.CanAdd(s, f) {
			t.Errorf("%s: CanAdd returns true", reason)
		}
	}
}

func TestCanLink(t *testing.T) {
	for _, c := range []struct {
		text string
		add  string
		want bool
	}{
		{"1 1", "0>1:0", true},
		{"2 3", "0>1:2 1", true},
		{"2 3 1;0>1:0 2", "1>2:0 0 0", true},
		// Beside other ways: those that make the same, and those that do not.
		{"2 3;0>1:0 2", "0>1:0 2", true},
		{"2 3;0>1:0 2", "0>1:0 1", false},
		{"2 2 2;0>1:1 0;1>2:1 0", "0>2:0 1", true},
		{"2 2 2;0>1:1 0;1>2:1 0", "0>2:1 0", false},
		{"2 2 2 2;0>1:0 1;1>3:0 1;2>3:1 0", "0>2:1 0", true},
		{"2 2 2 2;0>1:0 1;1>3:0 1;2>3:1 0", "0>2:0 1", false},
		// A call that two functions are applicable to only with the coercion.
		{"1 1 1;0>1:0/f(1)0:0/f(2)0:0", "0>2:0", false},
		{"1 1 1;0>1:0/f(1)0:0/f(2)0:0", "1>2:0", true},
		{"1 1 1;0>1:0/f(1)0:0/f(2)0:0/f(0)0:0", "0>2:0", true},
		{"1 1/f(0,1)0:0/f(1,0)0:0", "0>1:0", false},
		// Functions of which one is below the other one only with it.
		{"2 2/f(0)0:0 1/f(1)1:0 1", "0>1:0 1", true},
		{"2 2/f(0)0:0 1/f(1)1:0 1", "0>1:1 0", true},
		{"2 2/f(0)0:0 1/f(1)1:1 0", "0>1:0 1", false},
		{"2 2/f(0)0:0 0/f(1)1:0 0", "0>1:0 1", true},
		{"2 2/f(0)0:0 0/f(1)1:0 0", "0>1:1 0", false},
		{"1 1/f(0)1:0/f(1)0:0", "0>1:0", false},
		{"1 1/f(0)1:0/g(1)0:0", "0>1:0", true},
		// A system that is not good, though with the coercion it is; others are not with it either.
		{"1 1 1;0>1:0/f(0)0:0/f(1)2:0", "0>2:0", false},
		{"2 2;0>1:0 1;0>1:1 0", "0>1:0 1", false},
		{"2 2 1;0>1:0 1/f(0)0:0 1/f(1)1:1 1", "1>2:0 0", false},
		// As many coercions as there may be, and one more.
		{"1 1;0>1:0;0>1:0;0>1:0;0>1:0;0>1:0;0>1:0;0>1:0", "0>1:0", true},
		{"1 1;0>1:0;0>1:0;0>1:0;0>1:0;0>1:0;0>1:0;0>1:0;0>1:0", "0>1:0", false},
	} {
		s := systemOf(t, c.text)
		added := readCoercion(t, s.Types, c.add)
		if got := impl.CanLink(s, added); got != c.want || canLinkByDefinition(s, added) != c.want {
			t.Errorf("%s: CanLink(%s) returns %v, by the definition %v", c.text, c.add, got, canLinkByDefinition(s, added))
		}
	}
	s := systemOf(t, "2 3;0>1:0 2/k(0)0:0 0")
	for _, c := range badCoercions() {
		if impl.CanLink(s, c) {
			t.Errorf("CanLink(%v) returns true", c)
		}
	}
}

// badCoercions are coercions that do not fit types of two and of three values.
func badCoercions() []impl.Coercion {
	return []impl.Coercion{
		{}, link(1, 0, 0, 0, 0), link(0, 0, 0, 1), link(1, 1, 0, 1, 2), link(0, 2, 0, 0), link(2, 3, 0, 0), link(-1, 1, 0, 0), link(-2, -1), link(0, most, 0, 0), link(least, 1, 0, 0),
		link(0, 1), link(0, 1, 0), link(0, 1, 0, 1, 2), link(0, 1, 0, 3), link(0, 1, -1, 0), link(0, 1, most, 0), link(0, 1, make([]int, 100000)...),
	}
}

func TestAddCoercion(t *testing.T) {
	for _, c := range []struct{ text, add, want string }{
		{"1 1", "0>1:0", "1 1;0>1:0"},
		{"1 1/h()1:0", "0>1:0", "1 1;0>1:0/h()1:0"},
		{"2 3;0>1:0 2", "0>1:1 0", "2 3;0>1:0 2;0>1:1 0"},
		{"2 3 1;1>2:0 0 0/f(0)0:1 0/f(1)1:1 0 2", "0>1:0 2", "2 3 1;1>2:0 0 0;0>1:0 2/f(0)0:1 0/f(1)1:1 0 2"},
		// The system need not be good, nor become so.
		{"1 1/f(0,1)0:0/f(1,0)0:0", "0>1:0", "1 1;0>1:0/f(0,1)0:0/f(1,0)0:0"},
		{"2 2;0>1:0 1;0>1:1 0/f(0)0:0 1/f(1)1:1 1", "0>1:1 1", "2 2;0>1:0 1;0>1:1 0;0>1:1 1/f(0)0:0 1/f(1)1:1 1"},
		{"1 1;0>1:0;0>1:0;0>1:0;0>1:0;0>1:0;0>1:0;0>1:0/f()0:0", "0>1:0", "1 1;0>1:0;0>1:0;0>1:0;0>1:0;0>1:0;0>1:0;0>1:0;0>1:0/f()0:0"},
		{"1 1;0>1:0;0>1:0;0>1:0;0>1:0;0>1:0;0>1:0;0>1:0;0>1:0/f()0:0", "0>1:0", ""},
	} {
		s := systemOf(t, c.text)
		got, ok := impl.AddCoercion(s, readCoercion(t, s.Types, c.add))
		if text := impl.FormatSystem(got); text != c.want || ok != (c.want != "") || !ok && !isZeroSystem(got) {
			t.Errorf("%s: AddCoercion(%s) returns %q, %v, not %q", c.text, c.add, text, ok, c.want)
		}
	}
	s := systemOf(t, "2 3;0>1:0 2/k(0)0:0 0")
	for _, c := range badCoercions() {
		if got, ok := impl.AddCoercion(s, c); ok || !isZeroSystem(got) {
			t.Errorf("AddCoercion(%v) returns %v, %v", c, got, ok)
		}
	}
}

func TestDropFunction(t *testing.T) {
	parts := strings.Split(eightFunctions, "/")
	s := systemOf(t, eightFunctions)
	for i := range s.Functions {
		got, ok := impl.DropFunction(s, i)
		want := strings.Join(slices.Concat(parts[:i+1], parts[i+2:]), "/")
		if text := impl.FormatSystem(got); !ok || text != want {
			t.Errorf("DropFunction(%d) returns %q, %v, not %q", i, text, ok, want)
		}
	}
	if got, ok := impl.DropFunction(systemOf(t, "2 3;0>1:0 2/h()0:1"), 0); !ok || impl.FormatSystem(got) != "2 3;0>1:0 2" {
		t.Errorf("without the only function: %v, %v", got, ok)
	}
	for _, s := range []impl.System{s, systemOf(t, "2 3;0>1:0 2")} {
		for _, i := range []int{-1, len(s.Functions), len(s.Functions) + 1, most, least} {
			if got, ok := impl.DropFunction(s, i); ok || !isZeroSystem(got) {
				t.Errorf("%s: DropFunction(%d) returns %v, %v", impl.FormatSystem(s), i, got, ok)
			}
		}
	}
}

// neededByDefinition tells whether some call needs a function of a valid system.
func neededByDefinition(s impl.System, i int) bool {
	r := reachOf(s.Types)
	f := s.Functions[i]
	applicable := slices.Delete(slices.Clone(s.Functions), i, i+1)
	applicable = slices.DeleteFunc(applicable, func(other impl.Function) bool { return !r.isBelow(f, other) })
	for _, chosen := range applicable {
		if slices.ContainsFunc(applicable, func(other impl.Function) bool { return !r.isBelow(chosen, other) }) {
			continue
		}
		for row, values := range valueRows(s, f) {
			if r.resultFor(s, chosen, f.Args, values) != f.Table[row] {
				return true
			}
		}
		return chosen.Result != f.Result
	}
	return true
}

// checkNeeded compares what is told of all functions of a system with what is wanted, a `1` for each one that is needed.
func checkNeeded(t *testing.T, text string, want string) {
	t.Helper()
	s := systemOf(t, text)
	for i := range s.Functions {
		if got := impl.IsNeeded(s, i); got != (want[i] == '1') || neededByDefinition(s, i) != got {
			t.Errorf("%s: IsNeeded(%d) returns %v, by the definition %v", text, i, got, neededByDefinition(s, i))
		}
	}
	for _, i := range []int{-1, len(s.Functions), len(s.Functions) + 1, most, least} {
		if impl.IsNeeded(s, i) {
			t.Errorf("%s: IsNeeded(%d) returns true", text, i)
		}
	}
}

func TestIsNeeded(t *testing.T) {
	for text, want := range map[string]string{
		"2 3;0>1:0 1": "",
		// No other function of the name, none with as many arguments, none to whose arguments a way leads.
		"1/f()0:0":                        "1",
		"1/f()0:0/g()0:0/f(0)0:0":         "111",
		"2/f(0)0:0 0/g(0)0:0 0":           "11",
		"2/f(0)0:0 0/f(0,0)0:0 0 0 0":     "11",
		"2 2/f(0)0:0 0/f(1)0:0 0":         "11",
		"2 2;0>1:0 1/f(1)0:0 0/f(0)0:0 0": "10",
		// One above it with the same type of results: the same for all arguments, for some, for none.
		"2 3;0>1:0 1/f(0)1:1 0/f(1)1:1 0 2": "01",
		"2 3;0>1:0 1/f(0)1:1 1/f(1)1:1 0 2": "11",
		"2 3;0>1:0 1/f(0)1:0 0/f(1)1:1 0 2": "11",
		"2 3;0>1:0 1/f(0)1:0 1/f(1)1:1 0 2": "11",
		"2 3;0>1:2 0/f(0)1:2 1/f(1)1:1 0 2": "01",
		"2 3;0>1:2 0/f(0)1:1 0/f(1)1:1 0 2": "11",
		// With another type of results, into which they are coerced or not, the same or not.
		"2 3;0>1:0 1/f(0)0:1 0/f(1)1:1 0 2": "11",
		"2 3/f(0)0:1 0/f(1)1:1 0 2":         "11",
		"1 1;0>1:0/f(0)1:0/f(1)0:0":         "11",
		"1 1;0>1:0/f(0)0:0/f(1)0:0":         "01",
		// Several others: the one below all counts, and if there is none it is needed.
		"2 2 2;0>1:0 1;1>2:0 1/f(0)0:0 1/f(1)0:0 1/f(2)0:1 1":                            "011",
		"2 2 2;0>1:0 1;1>2:0 1/f(2)0:1 1/f(1)0:0 1/f(0)0:0 1":                            "110",
		"2 2 2;0>1:0 1;1>2:0 1/f(0)0:0 1/f(1)0:1 1/f(2)0:0 1":                            "111",
		"2 2 2;0>1:0 1;1>2:0 1/f(0)0:0 1/f(1)0:0 1/f(2)0:0 1":                            "001",
		"2 2 2;0>1:0 1;0>2:0 1/f(0)0:0 1/f(1)0:0 1/f(2)0:0 1":                            "111",
		"1 1;0>1:0/f(0,0)0:0/f(0,1)0:0/f(1,0)0:0":                                        "111",
		"1 1;0>1:0/f(0,0)0:0/f(0,1)0:0/f(1,1)0:0":                                        "001",
		"1 1;0>1:0/f(1,1)0:0/f(1,0)0:0/f(0,1)0:0/f(0,0)0:0":                              "1001",
		"2 2;0>1:0 1/f(0,0)0:0 0 0 1/f(0,1)0:0 0 0 1/f(1,1)0:0 1 0 1":                    "011",
		"2 2;0>1:0 1/f(0,0)0:0 0 1 1/f(0,1)0:0 0 0 1/f(1,1)0:0 0 0 1":                    "101",
		"2 3;0>1:2 0/f(0,1)0:1 0 1 0 0 0/f(1,1)0:0 0 0 0 0 0 1 1 1":                      "11",
		"2 3;0>1:2 0/f(0,1)0:1 0 1 0 0 0/f(1,1)0:0 0 0 1 1 1 1 0 1":                      "01",
		"2 3;0>1:2 0/f(1,0)0:1 0 0 1 1 1/f(1,1)0:0 1 1 1 0 0 1 1 1":                      "01",
		"2 3;0>1:2 0/f(1,0)0:1 0 0 1 1 0/f(1,1)0:0 1 1 1 0 0 1 1 1":                      "11",
		"2 2/f()0:0/f(0)0:0 0/f(0,0)0:0 0 0 0/f(1)0:0 0/f(0,1)0:0 0 0 0/f(1,0)0:0 0 0 0": "111111",
		// The first one of the shortest ways, where ways do not agree.
		"2 2;0>1:0 1;0>1:1 0/f(0)1:0 1/f(1)1:0 1":                     "01",
		"2 2;0>1:0 1;0>1:1 0/f(0)1:1 0/f(1)1:0 1":                     "11",
		"2 2 2;0>1:0 1;1>2:0 1;0>2:1 0/f(0)1:1 0/f(2)1:0 1":           "01",
		"2 2 2;0>1:0 1;1>2:0 1;0>2:1 0/f(0)1:0 1/f(2)1:0 1":           "11",
		"2 2 2;0>1:0 1;1>2:0 1;0>2:1 0/f(0)1:0 1/f(1)1:0 1/f(2)1:0 1": "001",
	} {
		checkNeeded(t, text, want)
	}
}

// someBelow returns a pseudo-random function below one of a system, with the same results but for a few, so that it may
// not be needed.
func someBelow(source *rand.Rand, s impl.System) impl.Function {
	r := reachOf(s.Types)
	upper := s.Functions[source.Intn(len(s.Functions))]
	f := function(upper.Name, nil, upper.Result)
	for _, kind := range upper.Args {
		from := source.Intn(kind + 1)
		for r.images[from][kind] == nil {
			from = source.Intn(kind + 1)
		}
		f.Args = append(f.Args, from)
	}
	for _, values := range valueRows(s, f) {
		result := r.resultFor(s, upper, f.Args, values)
		if source.Intn(15) == 0 {
			result = source.Intn(s.Sizes[f.Result])
		}
		f.Table = append(f.Table, result)
	}
	return f
}

// TestIsNeededManySystems compares what is told of pseudo-random systems of a fixed seed, in which many functions have the
// results of others, with the definition.
func TestIsNeededManySystems(t *testing.T) {
	source := rand.New(rand.NewSource(114))
	seen := map[string]int{}
	for n := range 400 {
		s := someSystem(source, 3+n%6, 1+n%2)
		s.Functions = s.Functions[:1+n%4]
		for range 10 {
			if more, ok := impl.WithFunction(s, someBelow(source, s)); ok {
				s = more
			}
		}
		for i, f := range s.Functions {
			want := neededByDefinition(s, i)
			if got := impl.IsNeeded(s, i); got != want {
				t.Fatalf("%s: IsNeeded(%d) returns %v", impl.FormatSystem(s), i, got)
			}
			rest, _ := impl.DropFunction(s, i)
			k, word := impl.ResolveCall(rest, f.Name, f.Args)
			if word == "one" {
				word += ", another type " + strconv.FormatBool(rest.Functions[k].Result != f.Result)
			}
			seen[word+", needed "+strconv.FormatBool(want)]++
		}
	}
	checkSeen(t, seen, 30, "none, needed true", "many, needed true", "one, another type true, needed true", "one, another type false, needed true", "one, another type false, needed false")
}

// goodPartByDefinition tells the text of the good part of a valid system whose types are coherent.
func goodPartByDefinition(s impl.System) string {
	part := impl.System{Types: s.Types}
	for _, f := range s.Functions {
		more := impl.System{Types: s.Types, Functions: append(slices.Clone(part.Functions), f)}
		if judgedByDefinition(more) == (judgement{}) {
			part = more
		}
	}
	return impl.FormatSystem(part)
}

// checkGoodPart compares what is told of a system with what is wanted, which is empty if there is no good part.
func checkGoodPart(t *testing.T, s impl.System, want string) {
	t.Helper()
	text := impl.FormatSystem(s)
	part, ok := impl.GoodPart(s)
	if impl.FormatSystem(part) != want || ok != (want != "") || !ok && !isZeroSystem(part) {
		t.Errorf("%s: GoodPart returns %q, %v, not %q", text, impl.FormatSystem(part), ok, want)
	}
	if !ok {
		return
	}
	if again, ok := impl.GoodPart(part); !impl.IsGood(part) || !ok || impl.FormatSystem(again) != want {
		t.Errorf("%s: the good part of its good part is %q, %v, not %q", text, impl.FormatSystem(again), ok, want)
	}
	if impl.FormatTypes(part.Types) != impl.FormatTypes(s.Types) {
		t.Errorf("%s: the types of its good part are %q", text, impl.FormatTypes(part.Types))
	}
	rest := s.Functions
	for _, f := range part.Functions {
		i := slices.IndexFunc(rest, func(other impl.Function) bool { return sameFunction(f, other) })
		if i < 0 {
			t.Errorf("%s: its good part has %s, which is not there, or not in this order", text, functionText(f))
			return
		}
		rest = rest[i+1:]
	}
	// A good system may have another good part than itself, as the order counts, but one that is whole is good.
	if len(part.Functions) == len(s.Functions) && !impl.IsGood(s) {
		t.Errorf("%s: IsGood returns false, but the good part is whole", text)
	}
}

func TestGoodPart(t *testing.T) {
	for _, c := range []struct{ text, want string }{
		{"1", "1"},
		{"2 3;0>1:0 2", "2 3;0>1:0 2"},
		{"1/f()0:0", "1/f()0:0"},
		{"2 3;0>1:0 1/f(1)1:1 0 2/f(0)0:0 0/h()0:1", "2 3;0>1:0 1/f(1)1:1 0 2/h()0:1"},
		{"2 3;0>1:0 1/f(0)0:0 0/f(1)1:1 0 2/h()0:1", "2 3;0>1:0 1/f(0)0:0 0/h()0:1"},
		// The order counts: one that makes up for two others must be there before the second one of them.
		{"1 1;0>1:0/f(0,0)0:0/f(0,1)0:0/f(1,0)0:0", "1 1;0>1:0/f(0,0)0:0/f(0,1)0:0/f(1,0)0:0"},
		{"1 1;0>1:0/f(0,1)0:0/f(0,0)0:0/f(1,0)0:0", "1 1;0>1:0/f(0,1)0:0/f(0,0)0:0/f(1,0)0:0"},
		{"1 1;0>1:0/f(0,1)0:0/f(1,0)0:0/f(0,0)0:0", "1 1;0>1:0/f(0,1)0:0/f(0,0)0:0"},
		{"1 1;0>1:0/f(1,0)0:0/f(0,1)0:0/f(0,0)0:0", "1 1;0>1:0/f(1,0)0:0/f(0,0)0:0"},
		{"1 1;0>1:0/f(1,0)0:0/f(0,1)0:0/g(1,0)0:0/g(0,1)0:0", "1 1;0>1:0/f(1,0)0:0/g(1,0)0:0"},
		// Only those that are there so far count, and not those that were refused.
		{"2 2 2;0>1:0 1;1>2:0 1/f(0)0:0 0/f(1)1:1 1/f(2)2:1 1", "2 2 2;0>1:0 1;1>2:0 1/f(0)0:0 0"},
		{"2 2 2;0>1:0 1;1>2:0 1/f(0)0:0 0/f(1)1:1 1/f(2)2:0 0", "2 2 2;0>1:0 1;1>2:0 1/f(0)0:0 0/f(2)2:0 0"},
		{"2 2 2;0>1:0 1;1>2:0 1/f(1)1:1 1/f(0)0:0 0/f(2)2:0 0", "2 2 2;0>1:0 1;1>2:0 1/f(1)1:1 1"},
		{"2 2 2;0>1:0 1;1>2:0 1/f(1)1:1 1/f(0)0:0 0/f(2)2:1 1", "2 2 2;0>1:0 1;1>2:0 1/f(1)1:1 1/f(2)2:1 1"},
		// Results that can't be coerced.
		{"1 1;0>1:0/f(0)1:0/f(1)0:0/g(1)0:0/g(0)1:0", "1 1;0>1:0/f(0)1:0/g(1)0:0"},
		{"1 1 1 1;0>1:0;1>2:0/f(0)0:0/f(1)1:0/f(2)3:0/f(3)0:0", "1 1 1 1;0>1:0;1>2:0/f(0)0:0/f(1)1:0/f(3)0:0"},
		// Types that are not coherent have no good part, with functions and without.
		{"2 2;0>1:0 1;0>1:1 0", ""},
		{"2 2;0>1:0 1;0>1:1 0/f()0:0", ""},
		{"2 2 2;0>1:1 0;1>2:1 0;0>2:1 0/f(0)0:0 1", ""},
		{mixed, ""},
	} {
		s := systemOf(t, c.text)
		checkGoodPart(t, s, c.want)
		if c.want != "" && goodPartByDefinition(s) != c.want {
			t.Errorf("%s: by the definition the good part is %q", c.text, goodPartByDefinition(s))
		}
	}
	for _, text := range givenGood {
		checkGoodPart(t, systemOf(t, text), text)
	}
	s := systemOf(t, eightFunctions)
	checkGoodPart(t, s, goodPartByDefinition(s))
}

// TestChangesManySystems compares what is told of functions and coercions of pseudo-random systems of a fixed seed, and of
// such as could be added, with the definitions.
func TestChangesManySystems(t *testing.T) {
	source := rand.New(rand.NewSource(111))
	seen := map[string]int{}
	count := func(kind string, is bool) { seen[kind+" "+strconv.FormatBool(is)]++ }
	for n := range 300 {
		s := someSystem(source, 2+n%6, 1+n%3)
		if n%3 > 0 {
			s = someGoodSystem(source, n%7, 1+n%2)
		}
		if len(s.Functions) == impl.MaxFunctions && n%2 == 0 {
			s.Functions = s.Functions[:4]
		}
		text := impl.FormatSystem(s)
		for i := range s.Functions {
			want := neededByDefinition(s, i)
			if got := impl.IsNeeded(s, i); got != want {
				t.Errorf("%s: IsNeeded(%d) returns %v", text, i, got)
			}
			count("needed", want)
		}
		want := ""
		if !reachOf(s.Types).doubt {
			want = goodPartByDefinition(s)
		}
		checkGoodPart(t, s, want)
		count("part", want != "")
		count("whole", want == text)
		for range 3 {
			f := someAgreeing(source, s, 1+n%2)
			want := canAddByDefinition(s, f)
			if got := impl.CanAdd(s, f); got != want {
				t.Errorf("%s: CanAdd(%s) returns %v", text, functionText(f), got)
			}
			count("add", want)
			c := someTypes(source, 1).Coercions[0]
			want = canLinkByDefinition(s, c)
			if got := impl.CanLink(s, c); got != want {
				t.Errorf("%s: CanLink(%v) returns %v", text, c, got)
			}
			count("link", want)
			checkTakenBack(t, s, f, c)
		}
		if t.Failed() {
			t.FailNow()
		}
	}
	for _, kind := range []string{"needed", "part", "whole", "add", "link"} {
		checkSeen(t, seen, 20, kind+" true", kind+" false")
	}
}

// checkTakenBack checks that what is put behind all others can be taken out again, and that the rest stays as it is.
func checkTakenBack(t *testing.T, s impl.System, f impl.Function, c impl.Coercion) {
	t.Helper()
	text := impl.FormatSystem(s)
	if more, ok := impl.AddCoercion(s, c); ok {
		types, isTaken := impl.WithoutCoercion(more.Types, len(more.Coercions)-1)
		back := impl.FormatSystem(impl.System{Types: types, Functions: more.Functions})
		if last := more.Coercions[len(s.Coercions)]; back != text || !isTaken || last.From != c.From || last.To != c.To || !slices.Equal(last.Map, c.Map) {
			t.Errorf("%s: AddCoercion(%v) returns %q, and without it %q", text, c, impl.FormatSystem(more), back)
		}
	} else if impl.TypesValid(impl.Types{Sizes: s.Sizes, Coercions: append(slices.Clone(s.Coercions), c)}) {
		t.Errorf("%s: AddCoercion(%v) returns false", text, c)
	}
	if more, ok := impl.WithFunction(s, f); ok {
		back, isTaken := impl.DropFunction(more, len(more.Functions)-1)
		if impl.FormatSystem(back) != text || !isTaken {
			t.Errorf("%s: WithFunction(%v), and DropFunction of it: %q, %v", text, f, impl.FormatSystem(back), isTaken)
		}
	}
}

// A change is a good system, and what it has become.
type change struct {
	from impl.System
	to   impl.System
}

// changesOf returns what functions and coercions make of a good system so that it stays good.
func changesOf(s impl.System, functions []impl.Function, coercions []impl.Coercion) []change {
	var list []change
	for _, f := range functions {
		if impl.CanAdd(s, f) {
			more, _ := impl.WithFunction(s, f)
			list = append(list, change{s, more})
		}
	}
	for _, c := range coercions {
		if impl.CanLink(s, c) {
			more, _ := impl.AddCoercion(s, c)
			list = append(list, change{s, more})
		}
	}
	return list
}

// checkNoTermChanges checks promise 11: that all terms that are made in a good system keep their values when it becomes
// another one, with their types and with all above these.
func checkNoTermChanges(t *testing.T, c change, terms []tree, seen map[string]int) {
	t.Helper()
	var texts []string
	for _, n := range terms {
		term := n.text()
		texts = append(texts, term)
		got := impl.CompareTerm(c.from, c.to, term)
		_, kind, why := impl.Elaborate(c.from, term)
		if (got == "same") != (why == "ok") || got == "changed" || got == "lost" {
			t.Errorf("from %s to %s: %q was made: %s, and CompareTerm returns %q", impl.FormatSystem(c.from), impl.FormatSystem(c.to), term, why, got)
		}
		seen[got]++
		if got != "same" {
			continue
		}
		for _, above := range impl.AboveOf(c.from.Types, kind) {
			before, _ := impl.RunAt(c.from, term, above)
			if after, why := impl.RunAt(c.to, term, above); before != after || why != "ok" {
				t.Errorf("from %s to %s: %q had with the type %d the value %d and has %d, %q", impl.FormatSystem(c.from), impl.FormatSystem(c.to), term, above, before, after, why)
			}
		}
		if made, _, _ := impl.Elaborate(c.from, term); made != first(impl.Elaborate(c.to, term)) {
			seen["made in another way"]++
		}
		if impl.TypeOf(c.to, term) != kind {
			seen["another type"]++
		}
	}
	if broken := impl.BrokenOf(c.from, c.to, texts); len(broken) > 0 {
		t.Errorf("from %s to %s: BrokenOf returns %v", impl.FormatSystem(c.from), impl.FormatSystem(c.to), broken)
	}
}

// first returns the first one of what Elaborate returns.
func first(made string, _ int, _ string) string {
	return made
}

// someTerms returns pseudo-random terms of a system.
func someTerms(source *rand.Rand, s impl.System, count int) []tree {
	var terms []tree
	for range count {
		n := someTree(source, 3+source.Intn(25))
		fit(source, s, &n)
		terms = append(terms, n)
	}
	return terms
}

// callsOf returns all calls of the name of a function with literals of the types of its arguments, and calls of these.
func callsOf(source *rand.Rand, s impl.System, f impl.Function) []tree {
	var terms []tree
	for _, values := range valueRows(s, f) {
		n := tree{name: f.Name}
		for place, value := range values {
			n.parts = append(n.parts, tree{kind: f.Args[place], value: value})
		}
		name := s.Functions[source.Intn(len(s.Functions))].Name
		terms = append(terms, n, tree{name: name, parts: []tree{n}}, tree{name: name, parts: []tree{n, n}})
	}
	return terms
}

// TestGivenChangesKeepTerms adds to good systems functions that some terms then call, or coercions that some terms then
// take, and checks all terms without calls within calls and pseudo-random ones of a fixed seed.
func TestGivenChangesKeepTerms(t *testing.T) {
	source := rand.New(rand.NewSource(112))
	seen := map[string]int{}
	for _, c := range []struct{ from, to string }{
		{"2 3;0>1:0 1/f(1)1:1 0 2", "2 3;0>1:0 1/f(1)1:1 0 2/f(0)0:1 0"},
		{"2 3;0>1:0 1/f(1)1:1 0 2/g(1,1)1:0 0 0 0 1 0 0 0 2", "2 3;0>1:0 1/f(1)1:1 0 2/g(1,1)1:0 0 0 0 1 0 0 0 2/g(0,0)0:0 0 0 1"},
		{"2 3;0>1:0 1/f(0)0:1 0", "2 3;0>1:0 1/f(0)0:1 0/f(1)1:1 0 2"},
		{"2 1;0>1:0 0/f(1)1:0/g(1)1:0", "2 1;0>1:0 0/f(1)1:0/g(1)1:0/f(0)0:1 0"},
		{"2 3;0>1:0 1/f(1)1:1 0 2", "2 3;0>1:0 1/f(1)1:1 0 2/h()0:1"},
		{"2 2 2;0>1:1 0;1>2:1 0/f(2)2:1 0/f(1)1:1 0", "2 2 2;0>1:1 0;1>2:1 0;0>2:0 1/f(2)2:1 0/f(1)1:1 0"},
		{"2 2 2;0>1:1 0;1>2:1 0/f(2)2:1 0", "2 2 2;0>1:1 0;1>2:1 0;0>2:0 1/f(2)2:1 0"},
		{"2 2/f(0)0:0 1/f(1)1:0 1/g(1)0:1 0", "2 2;0>1:1 0/f(0)0:0 1/f(1)1:0 1/g(1)0:1 0"},
	} {
		s, u := systemOf(t, c.from), systemOf(t, c.to)
		var isChange bool
		if len(u.Functions) > len(s.Functions) {
			isChange = impl.CanAdd(s, u.Functions[len(s.Functions)])
		} else {
			isChange = impl.CanLink(s, u.Coercions[len(s.Coercions)])
		}
		if !isChange {
			t.Errorf("%s can't become %s", c.from, c.to)
		}
		checkNoTermChanges(t, change{s, u}, append(flatTerms(u), someTerms(source, u, 200)...), seen)
	}
	checkSeen(t, seen, 20, "same", "gained", "none", "another type", "made in another way")
}

// TestManyChangesKeepTerms checks promise 11 for pseudo-random good systems and terms of a fixed seed, to which functions
// and coercions are added as long as there are some that can be.
func TestManyChangesKeepTerms(t *testing.T) {
	source := rand.New(rand.NewSource(113))
	seen := map[string]int{}
	var systems []impl.System
	for _, text := range givenGood {
		systems = append(systems, systemOf(t, text))
	}
	for n := range 60 {
		s := someGoodSystem(source, 2+n%4, 1+n%2)
		s.Functions = s.Functions[:min(len(s.Functions), 1+n%6)]
		part, ok := impl.GoodPart(s)
		if !ok {
			t.Fatalf("%s has no good part", impl.FormatSystem(s))
		}
		systems = append(systems, part)
	}
	for n, s := range systems {
		for range 4 {
			var functions []impl.Function
			var coercions []impl.Coercion
			for range 6 {
				functions = append(functions, someAgreeing(source, s, 1+n%2))
				coercions = append(coercions, someLink(source, s.Types))
			}
			list := changesOf(s, functions, coercions)
			for _, c := range list {
				terms := someTerms(source, c.to, 10)
				if len(c.to.Functions) > 0 {
					// The function that was added, if it is one.
					terms = append(terms, callsOf(source, c.to, c.to.Functions[len(c.to.Functions)-1])...)
				}
				checkNoTermChanges(t, c, terms, seen)
			}
			if t.Failed() {
				t.FailNow()
			}
			if len(list) > 0 {
				s = list[source.Intn(len(list))].to
			}
		}
	}
	checkSeen(t, seen, 100, "same", "gained", "none", "another type", "made in another way")
}

// someLink returns a pseudo-random coercion between types, which makes what a way makes if there is one, but for a few.
func someLink(source *rand.Rand, types impl.Types) impl.Coercion {
	if len(types.Sizes) < 2 {
		return link(0, 1, 0)
	}
	from := source.Intn(len(types.Sizes) - 1)
	to := from + 1 + source.Intn(len(types.Sizes)-1-from)
	var images []int
	for value := range types.Sizes[from] {
		image := impl.Coerce(types, from, to, value)
		if image < 0 || source.Intn(20) == 0 {
			image = source.Intn(types.Sizes[to])
		}
		images = append(images, image)
	}
	return link(from, to, images...)
}

func TestInvalidSystemsDoNotChange(t *testing.T) {
	bad := badSystems()
	bad["zero value"] = impl.System{}
	for reason, s := range bad {
		for i := -1; i < 4; i++ {
			if got, ok := impl.DropFunction(s, i); ok || !isZeroSystem(got) {
				t.Errorf("%s: DropFunction(%d) returns %v, %v", reason, i, got, ok)
			}
			if impl.IsNeeded(s, i) {
				t.Errorf("%s: IsNeeded(%d) returns true", reason, i)
			}
		}
		for _, c := range []impl.Coercion{link(0, 1, 0), link(0, 1, 0, 1), link(0, 1, 0, 2), {}} {
			if got, ok := impl.AddCoercion(s, c); ok || !isZeroSystem(got) || impl.CanLink(s, c) {
				t.Errorf("%s: AddCoercion(%v) returns %v, %v, CanLink %v", reason, c, got, ok, impl.CanLink(s, c))
			}
		}
		for _, f := range []impl.Function{function("j", nil, 0, 0), function("j", []int{0}, 0, 0, 0), {}} {
			if impl.CanAdd(s, f) {
				t.Errorf("%s: CanAdd(%v) returns true", reason, f)
			}
		}
		checkGoodPart(t, s, "")
	}
}

// ownNames puts names into a system that can be told from those of other ones by their memory.
func ownNames(s impl.System) impl.System {
	for i, f := range s.Functions {
		s.Functions[i].Name = strings.Clone(f.Name)
	}
	return s
}

// nameCells returns the places of all names of functions of a system.
func nameCells(s impl.System) []*byte {
	var cells []*byte
	for _, f := range s.Functions {
		cells = append(cells, byteCells(f.Name)...)
	}
	return cells
}

func TestChangesKeepMemory(t *testing.T) {
	for _, text := range append(slices.Clone(goodSystems), givenGood...) {
		s, u := ownNames(spareSystem(systemOf(t, text))), ownNames(spareSystem(systemOf(t, text)))
		f := function(strings.Clone("j"), spare(0, 0), 0, spare(make([]int, s.Sizes[0]*s.Sizes[0])...)...)
		c := link(0, 1, spare(make([]int, s.Sizes[0])...)...)
		terms := spareTexts("0:0", "f(0:0)", "9:9", "j(0:0,0:0)", "x")
		arguments := slices.Concat(systemCells(s), systemCells(u), numberCells(f.Args), numberCells(f.Table), numberCells(c.Map))
		before, names := numbersAt(arguments), slices.Concat(namesAt(s), namesAt(u))
		numbers := [][]*int{arguments}
		bytes := [][]*byte{nameCells(s), nameCells(u), byteCells(f.Name)}
		for range 2 {
			linked, _ := impl.AddCoercion(s, c)
			part, _ := impl.GoodPart(s)
			results := []impl.System{linked, part}
			for i := range len(s.Functions) + 1 {
				fewer, _ := impl.DropFunction(s, i)
				results = append(results, fewer)
				impl.IsNeeded(s, i)
			}
			for _, result := range results {
				numbers = append(numbers, systemCells(result))
				bytes = append(bytes, nameCells(result))
			}
			numbers = append(numbers, numberCells(impl.BrokenOf(s, impl.System{}, terms)))
			for _, other := range append(results, u) {
				impl.BrokenOf(s, other, terms)
				impl.CompareTerm(s, other, terms[1])
			}
			impl.CanAdd(s, f)
			impl.CanLink(s, c)
		}
		checkApart(t, numbers...)
		checkApart(t, bytes...)
		if after := numbersAt(arguments); !slices.Equal(before, after) || !slices.Equal(names, slices.Concat(namesAt(s), namesAt(u))) {
			t.Errorf("%s: arguments were %v, %q and are %v, %q", text, before, names, after, slices.Concat(namesAt(s), namesAt(u)))
		}
		if after := terms[:len(terms)+3]; !slices.Equal(after, []string{"0:0", "f(0:0)", "9:9", "j(0:0,0:0)", "x", "-", "-", "-"}) {
			t.Errorf("%s: terms have become %q", text, after)
		}
		if impl.FormatSystem(s) != text || impl.FormatSystem(u) != text {
			t.Errorf("%s: the systems have become %q and %q", text, impl.FormatSystem(s), impl.FormatSystem(u))
		}
	}
}

// TestChangesAreApart overwrites systems that were made, and one from which others were made.
func TestChangesAreApart(t *testing.T) {
	const text = "2 3;0>1:0 1/f(1)1:1 0 2/f(0)0:1 0"
	s := systemOf(t, text)
	c := link(0, 1, 0, 1)
	for range 2 {
		for _, build := range []func() (impl.System, bool){
			func() (impl.System, bool) { return impl.AddCoercion(s, c) },
			func() (impl.System, bool) { return impl.DropFunction(s, 0) },
			func() (impl.System, bool) { return impl.GoodPart(s) },
		} {
			made, ok := build()
			again, _ := build()
			want := impl.FormatSystem(made)
			overwriteSystem(made)
			if impl.FormatSystem(s) != text || impl.FormatSystem(again) != want || !ok || want == "" {
				t.Errorf("the argument has become %q, and another result %q, which was %q", impl.FormatSystem(s), impl.FormatSystem(again), want)
			}
		}
	}
	linked, _ := impl.AddCoercion(s, c)
	fewer, _ := impl.DropFunction(s, 0)
	part, _ := impl.GoodPart(s)
	overwriteSystem(s)
	c.Map[0], c.Map[1] = -7, -7
	if impl.FormatSystem(linked) != "2 3;0>1:0 1;0>1:0 1/f(1)1:1 0 2/f(0)0:1 0" || impl.FormatSystem(fewer) != "2 3;0>1:0 1/f(0)0:1 0" || impl.FormatSystem(part) != text {
		t.Errorf("results have become %q, %q and %q", impl.FormatSystem(linked), impl.FormatSystem(fewer), impl.FormatSystem(part))
	}
}

// TestChangesKeepNoState asks the same of systems between which others were asked about, and of one that has changed.
func TestChangesKeepNoState(t *testing.T) {
	s, u := systemOf(t, "2 3;0>1:0 1/f(1)1:1 0 2"), systemOf(t, "2 3;0>1:0 1/f(1)1:1 0 2/f(0)0:0 0/h()0:1")
	f, terms := function("f", []int{0}, 0, 1, 0), []string{"f(0:1)", "f(0:0)", "h()"}
	for range 3 {
		checkFate(t, s, u, "f(0:0)", "changed")
		checkFate(t, u, s, "h()", "lost")
		checkFate(t, s, u, "f(0:1)", "same")
		broken := impl.BrokenOf(s, u, terms)
		if !slices.Equal(broken, []int{1}) || !slices.Equal(impl.BrokenOf(u, s, terms), []int{0, 1, 2}) {
			t.Errorf("BrokenOf returns %v", broken)
		}
		broken[0] = -7
		if !impl.CanAdd(s, f) || impl.CanAdd(u, f) || !impl.CanLink(s, link(0, 1, 0, 1)) || impl.CanLink(u, link(0, 1, 0, 1)) || !impl.IsNeeded(s, 0) || !impl.IsNeeded(u, 1) {
			t.Error("an answer depends on another call")
		}
		checkGoodPart(t, u, "2 3;0>1:0 1/f(1)1:1 0 2/h()0:1")
		checkGoodPart(t, impl.System{}, "")
	}
	u.Functions[1].Table[0] = 1
	checkFate(t, s, u, "f(0:0)", "same")
	checkGoodPart(t, u, "2 3;0>1:0 1/f(1)1:1 0 2/f(0)0:1 0/h()0:1")
	terms[1] = "f(1:2)"
	u.Functions[0].Table[2] = 0
	if broken := impl.BrokenOf(s, u, terms); !slices.Equal(broken, []int{1}) {
		t.Errorf("BrokenOf returns %v for a system that has changed", broken)
	}
	u.Functions[1].Result = 1
	if impl.IsNeeded(u, 1) || !impl.CanAdd(s, u.Functions[1]) {
		t.Error("an answer is about a system as it was")
	}
	s.Functions[0].Table[0] = 3
	checkFate(t, s, u, "0:0", "gained")
	if impl.CanAdd(s, f) || impl.IsNeeded(s, 0) {
		t.Error("an answer is about a system as it was")
	}
}

// TestChangesTogether asks about the same systems at the same time; it is for the race detector too.
func TestChangesTogether(t *testing.T) {
	const text = "2 3;0>1:0 1/f(1)1:1 0 2"
	s, u := systemOf(t, text), systemOf(t, text+"/f(0)0:0 0/h()0:1")
	f, c, terms := function("f", []int{0}, 0, 1, 0), link(0, 1, 0, 1), []string{"f(0:1)", "f(0:0)", "h()"}
	done := make(chan bool)
	for range 8 {
		go func() {
			linked, ok := impl.AddCoercion(s, c)
			fewer, isFewer := impl.DropFunction(u, 1)
			part, isPart := impl.GoodPart(u)
			done <- impl.CompareTerm(s, u, "f(0:0)") == "changed" && slices.Equal(impl.BrokenOf(s, u, terms), []int{1}) && impl.CanAdd(s, f) && impl.CanLink(s, c) && impl.IsNeeded(u, 1) &&
				ok && isFewer && isPart && impl.FormatSystem(linked) == "2 3;0>1:0 1;0>1:0 1/f(1)1:1 0 2" && impl.FormatSystem(fewer) == text+"/h()0:1" && impl.FormatSystem(part) == text+"/h()0:1"
		}()
	}
	for range 8 {
		if !<-done {
			t.Error("answers differ")
		}
	}
}

// TestChangesLeaveNoGoroutines asks about terms again and again, after which no goroutine of theirs is left.
func TestChangesLeaveNoGoroutines(t *testing.T) {
	s := systemOf(t, mixed)
	terms := slices.Repeat([]string{"g(f(0:1),1:2)", "k(h(),g(h(),h()))", "x", "f(0:2)"}, 60)
	before := runtime.NumGoroutine()
	for range 20 {
		impl.BrokenOf(s, s, terms)
		impl.BrokenOf(s, impl.System{}, terms)
		impl.CompareTerm(s, s, terms[0])
	}
	checkGoroutines(t, before)
}
