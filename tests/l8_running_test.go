package tests

import (
	"math/rand"
	"regexp"
	"runtime"
	"slices"
	"strconv"
	"strings"
	"testing"

	"loop.example/overloads/impl"
)

// runAnswers are what the functions of the chapter return for an explicit term; next is empty for a literal.
type runAnswers struct {
	value int
	kind  int
	steps []int
	next  string
}

// checkRun compares what is returned for an explicit term with what is wanted, and checks promise 8: that it has one
// value, whole and step by step.
func checkRun(t *testing.T, s impl.System, made string, want runAnswers) {
	t.Helper()
	system := impl.FormatSystem(s)
	if value, kind, ok := impl.RunMade(s, made); value != want.value || kind != want.kind || !ok {
		t.Errorf("%s: RunMade(%q) returns %d, %d, %v, not %d, %d", system, made, value, kind, ok, want.value, want.kind)
	}
	if steps, ok := impl.StepsOf(s, made); !slices.Equal(steps, want.steps) || !ok {
		t.Errorf("%s: StepsOf(%q) returns %v, %v, not %v", system, made, steps, ok, want.steps)
	}
	if next, ok := impl.StepMade(s, made); next != want.next || ok != (want.next != "") {
		t.Errorf("%s: StepMade(%q) returns %q, %v, not %q", system, made, next, ok, want.next)
	}
	normal := strconv.Itoa(want.kind) + ":" + strconv.Itoa(want.value)
	if got, ok := impl.Normal(s, made); got != normal || !ok {
		t.Errorf("%s: Normal(%q) returns %q, %v, not %q", system, made, got, ok, normal)
	}
	if !impl.SameMade(s, made, made) {
		t.Errorf("%s: SameMade returns false for %q and itself", system, made)
	}
	for _, other := range literalsOf(s) {
		if impl.SameMade(s, made, other) != (other == normal) || impl.SameMade(s, other, made) != (other == normal) {
			t.Errorf("%s: SameMade does not tell %q, of which the literal is %q, from %q", system, made, normal, other)
		}
	}
	checkStepByStep(t, s, made, want)
}

// checkStepByStep checks that each step of an explicit term has its type and value, and that the last one is a literal.
func checkStepByStep(t *testing.T, s impl.System, made string, want runAnswers) {
	t.Helper()
	for parts := strings.Count(made, ")"); parts > 0; parts-- {
		next, ok := impl.StepMade(s, made)
		value, kind, isMade := impl.RunMade(s, next)
		if !ok || !isMade || value != want.value || kind != want.kind || strings.Count(next, ")") != parts-1 || !impl.SameMade(s, made, next) {
			t.Errorf("%s: StepMade(%q) returns %q, %v, which has %d, %d, %v, not %d, %d", impl.FormatSystem(s), made, next, ok, value, kind, isMade, want.value, want.kind)
			return
		}
		made = next
	}
	if next, ok := impl.StepMade(s, made); len(made) != 3 || next != "" || ok {
		t.Errorf("%s: StepMade(%q) returns %q, %v", impl.FormatSystem(s), made, next, ok)
	}
}

// literalsOf are all literals of a system whose value is one of their type.
func literalsOf(s impl.System) []string {
	var list []string
	for kind, size := range s.Sizes {
		for value := range size {
			list = append(list, strconv.Itoa(kind)+":"+strconv.Itoa(value))
		}
	}
	return list
}

// checkNoRun checks that nothing is returned for a text that is no explicit term.
func checkNoRun(t *testing.T, s impl.System, text string) {
	t.Helper()
	value, kind, isRun := impl.RunMade(s, text)
	steps, hasSteps := impl.StepsOf(s, text)
	normal, hasNormal := impl.Normal(s, text)
	next, hasNext := impl.StepMade(s, text)
	if value != -1 || kind != -1 || len(steps) != 0 || normal != "" || next != "" || isRun || hasSteps || hasNormal || hasNext {
		t.Errorf("%s: %.80q (%d bytes): RunMade %d, %d, %v, StepsOf %v, %v, Normal %q, %v, StepMade %.80q, %v", impl.FormatSystem(s), text, len(text), value, kind, isRun, steps, hasSteps, normal, hasNormal, next, hasNext)
	}
	for _, other := range []string{text, "0:0", "x", ""} {
		if impl.SameMade(s, text, other) || impl.SameMade(s, other, text) {
			t.Errorf("%s: SameMade returns true for %.80q and %.80q", impl.FormatSystem(s), text, other)
		}
	}
}

// A termRun is what RunTerm returns for a term, and what RunAt returns for each type of the system, -1 for none.
type termRun struct {
	value int
	kind  int
	why   string
	at    []int
}

// checkRunTerm compares what is returned for a term with what is wanted.
func checkRunTerm(t *testing.T, s impl.System, term string, want termRun) {
	t.Helper()
	if value, kind, why := impl.RunTerm(s, term); value != want.value || kind != want.kind || why != want.why {
		t.Errorf("%s: RunTerm(%.80q) returns %d, %d, %q, not %d, %d, %q", impl.FormatSystem(s), term, value, kind, why, want.value, want.kind, want.why)
	}
	for _, kind := range kindsAround(s) {
		wantValue, wantWhy := -1, want.why
		if wantWhy == "ok" && kind >= 0 && kind < len(want.at) {
			wantValue = want.at[kind]
		}
		if wantWhy == "ok" && wantValue < 0 {
			wantWhy = "none"
		}
		if value, why := impl.RunAt(s, term, kind); value != wantValue || why != wantWhy {
			t.Errorf("%s: RunAt(%.80q, %d) returns %d, %q, not %d, %q", impl.FormatSystem(s), term, kind, value, why, wantValue, wantWhy)
		}
	}
}

// noRun is what is wanted for a term of which nothing is made.
func noRun(why string) termRun {
	return termRun{-1, -1, why, nil}
}

// TestRunExample is that of the document.
func TestRunExample(t *testing.T) {
	s := systemOf(t, "2 3;0>1:0 1/f(0)0:1 0/g(1,1)1:0 0 0 0 1 0 0 0 2")
	checkRun(t, s, "@1(#0(@0(0:1)),1:2)", runAnswers{0, 1, []int{1, 0, 0, 2, 0}, "@1(#0(0:0),1:2)"})
	checkRun(t, s, "@1(#0(0:0),1:2)", runAnswers{0, 1, []int{0, 0, 2, 0}, "@1(1:0,1:2)"})
	checkRun(t, s, "@1(1:0,1:2)", runAnswers{0, 1, []int{0, 2, 0}, "1:0"})
	checkRun(t, s, "1:0", runAnswers{0, 1, []int{0}, ""})
	checkRunTerm(t, s, "g(f(0:1),1:2)", termRun{0, 1, "ok", []int{-1, 0}})
}

func TestRunOrdinary(t *testing.T) {
	s := systemOf(t, mixed)
	for made, want := range map[string]runAnswers{
		"#0(0:1)":             {1, 1, []int{1, 1}, "1:1"},
		"#2(0:1)":             {2, 1, []int{1, 2}, "1:2"},
		"#2(0:0)":             {1, 1, []int{0, 1}, "1:1"},
		"#1(1:2)":             {1, 2, []int{2, 1}, "2:1"},
		"@0(0:1)":             {0, 0, []int{1, 0}, "0:0"},
		"@1(1:0)":             {1, 2, []int{0, 1}, "2:1"},
		"@1(#2(0:0))":         {0, 2, []int{0, 1, 0}, "@1(1:1)"},
		"@2(1:2,1:2)":         {2, 1, []int{2, 2, 2}, "1:2"},
		"@2(1:0,1:1)":         {0, 1, []int{0, 1, 0}, "1:0"},
		"@2(#0(@0(0:1)),1:2)": {0, 1, []int{1, 0, 0, 2, 0}, "@2(#0(0:0),1:2)"},
		// The last argument of a table changes first.
		"@4(0:0,1:1)": {1, 0, []int{0, 1, 1}, "0:1"},
		"@4(0:1,1:1)": {0, 0, []int{1, 1, 0}, "0:0"},
		"@4(0:0,1:2)": {0, 0, []int{0, 2, 0}, "0:0"},
		"@4(0:1,1:2)": {1, 0, []int{1, 2, 1}, "0:1"},
		"@5(1:1,0:0)": {0, 0, []int{1, 0, 0}, "0:0"},
		"@5(1:0,0:1)": {1, 0, []int{0, 1, 1}, "0:1"},
		"@7(2:1,2:0)": {0, 0, []int{1, 0, 0}, "0:0"},
		"@7(2:0,2:1)": {1, 0, []int{0, 1, 1}, "0:1"},
	} {
		checkRun(t, s, made, want)
	}
}

// TestRunLiterals has literals alone, of each type and value.
func TestRunLiterals(t *testing.T) {
	for _, text := range []string{"1", "4 3 2 1 4", mixed} {
		s := systemOf(t, text)
		for kind, size := range s.Sizes {
			for value := range size {
				literal := strconv.Itoa(kind) + ":" + strconv.Itoa(value)
				checkRun(t, s, literal, runAnswers{value, kind, []int{value}, ""})
			}
		}
	}
}

func TestRunWithoutArguments(t *testing.T) {
	s := systemOf(t, mixed)
	for made, want := range map[string]runAnswers{
		"@3()":                 {1, 0, []int{1}, "0:1"},
		"@0(@3())":             {0, 0, []int{1, 0}, "@0(0:1)"},
		"#2(@3())":             {2, 1, []int{1, 2}, "#2(0:1)"},
		"#1(#0(@3()))":         {0, 2, []int{1, 1, 0}, "#1(#0(0:1))"},
		"@5(1:2,@3())":         {1, 0, []int{2, 1, 1}, "@5(1:2,0:1)"},
		"@5(#2(@3()),@3())":    {1, 0, []int{1, 2, 1, 1}, "@5(#2(0:1),@3())"},
		"@4(@3(),#2(@3()))":    {1, 0, []int{1, 1, 2, 1}, "@4(0:1,#2(@3()))"},
		"@4(@3(),#0(@3()))":    {0, 0, []int{1, 1, 1, 0}, "@4(0:1,#0(@3()))"},
		"@6(#1(#0(@0(@3()))))": {1, 2, []int{1, 0, 0, 1, 1}, "@6(#1(#0(@0(0:1))))"},
	} {
		checkRun(t, s, made, want)
	}
	every := systemOf(t, "4 2/f()0:3/g()0:0/h()1:1/i()0:2/j()1:0/k()0:1/g(0,0)1:0 1 0 1 0 0 1 1 1 0 1 0 1 1 0 0")
	for i, value := range []int{3, 0, 1, 2, 0, 1} {
		kind := []int{0, 0, 1, 0, 1, 0}[i]
		checkRun(t, every, "@"+strconv.Itoa(i)+"()", runAnswers{value, kind, []int{value}, strconv.Itoa(kind) + ":" + strconv.Itoa(value)})
	}
	checkRun(t, every, "@6(@0(),@3())", runAnswers{0, 1, []int{3, 2, 0}, "@6(0:3,@3())"})
	checkRun(t, every, "@6(@3(),@0())", runAnswers{0, 1, []int{2, 3, 0}, "@6(0:2,@0())"})
	checkRun(t, every, "@6(@5(),@3())", runAnswers{1, 1, []int{1, 2, 1}, "@6(0:1,@3())"})
}

func TestRunCoercionsAroundCoercions(t *testing.T) {
	s := systemOf(t, mixed)
	for made, want := range map[string]runAnswers{
		"#1(#0(0:0))":                 {1, 2, []int{0, 0, 1}, "#1(1:0)"},
		"#1(#0(0:1))":                 {0, 2, []int{1, 1, 0}, "#1(1:1)"},
		"#1(#2(0:0))":                 {0, 2, []int{0, 1, 0}, "#1(1:1)"},
		"#1(#2(0:1))":                 {1, 2, []int{1, 2, 1}, "#1(1:2)"},
		"@6(#1(#2(@0(0:0))))":         {1, 2, []int{0, 1, 2, 1, 1}, "@6(#1(#2(0:1)))"},
		"@7(#1(#0(0:1)),#1(#2(0:1)))": {1, 0, []int{1, 1, 0, 1, 2, 1, 1}, "@7(#1(1:1),#1(#2(0:1)))"},
	} {
		checkRun(t, s, made, want)
	}
	// As many coercions within each other as there may be, in any order of their indices.
	long := systemOf(t, "3 4 2 4 3;3>4:1 2 0 2;1>2:0 1 1 0;0>1:3 1 2;2>3:3 1")
	checkRun(t, long, "#0(#3(#1(#2(0:0))))", runAnswers{2, 4, []int{0, 3, 0, 3, 2}, "#0(#3(#1(1:3)))"})
	checkRun(t, long, "#0(#3(#1(#2(0:1))))", runAnswers{2, 4, []int{1, 1, 1, 1, 2}, "#0(#3(#1(1:1)))"})
	checkRun(t, long, "#0(#3(#1(1:3)))", runAnswers{2, 4, []int{3, 0, 3, 2}, "#0(#3(2:0))"})
	checkRun(t, long, "#0(#3(2:0))", runAnswers{2, 4, []int{0, 3, 2}, "#0(3:3)"})
	checkRun(t, long, "#0(3:0)", runAnswers{1, 4, []int{0, 1}, "4:1"})
	// Two ways that make different values of one.
	two := systemOf(t, "2 2;0>1:0 1;0>1:1 0")
	checkRun(t, two, "#0(0:1)", runAnswers{1, 1, []int{1, 1}, "1:1"})
	checkRun(t, two, "#1(0:1)", runAnswers{0, 1, []int{1, 0}, "1:0"})
}

func TestRunCallsWithinCalls(t *testing.T) {
	s := systemOf(t, mixed)
	for made, want := range map[string]runAnswers{
		"@0(@0(@0(0:1)))":              {0, 0, []int{1, 0, 1, 0}, "@0(@0(0:0))"},
		"@2(1:0,@2(1:2,1:2))":          {0, 1, []int{0, 2, 2, 2, 0}, "@2(1:0,1:2)"},
		"@2(1:2,@2(1:2,1:2))":          {2, 1, []int{2, 2, 2, 2, 2}, "@2(1:2,1:2)"},
		"@7(@6(2:0),@1(1:2))":          {1, 0, []int{0, 0, 2, 0, 1}, "@7(2:0,@1(1:2))"},
		"@7(2:0,@1(1:2))":              {1, 0, []int{0, 2, 0, 1}, "@7(2:0,2:0)"},
		"@7(@6(2:1),@1(1:0))":          {0, 0, []int{1, 1, 0, 1, 0}, "@7(2:1,@1(1:0))"},
		"@4(@3(),@2(1:1,1:1))":         {0, 0, []int{1, 1, 1, 1, 0}, "@4(0:1,@2(1:1,1:1))"},
		"@4(@0(@3()),@2(1:0,#2(0:0)))": {0, 0, []int{1, 0, 0, 0, 1, 0, 0}, "@4(@0(0:1),@2(1:0,#2(0:0)))"},
		// The same part twice, of which the left one is done.
		"@2(@2(1:1,1:1),@2(1:1,1:1))": {1, 1, []int{1, 1, 1, 1, 1, 1, 1}, "@2(1:1,@2(1:1,1:1))"},
		"@2(#0(0:1),#0(0:1))":         {1, 1, []int{1, 1, 1, 1, 1}, "@2(1:1,#0(0:1))"},
		"@7(@6(@6(2:1)),@6(@6(2:1)))": {0, 0, []int{1, 1, 1, 1, 1, 1, 0}, "@7(@6(2:1),@6(@6(2:1)))"},
		// The right argument has the deeper part, which does not end first.
		"@7(@6(2:0),@6(@6(@6(2:1))))": {1, 0, []int{0, 0, 1, 1, 1, 1, 1}, "@7(2:0,@6(@6(@6(2:1))))"},
	} {
		checkRun(t, s, made, want)
	}
}

func TestSameMade(t *testing.T) {
	s := systemOf(t, mixed)
	// Explicit terms of each type and value, the first one its literal, and texts that are none.
	groups := [][]string{
		{"0:0", "@0(0:1)", "@0(@3())", "@4(0:1,1:1)", "@5(1:1,0:0)", "@7(2:1,2:0)"},
		{"0:1", "@3()", "@0(0:0)", "@5(1:2,@3())", "@7(#1(#0(0:1)),#1(#2(0:1)))"},
		{"1:0", "#0(0:0)", "@2(#0(@0(0:1)),1:2)", "@2(1:0,1:1)"},
		{"1:1", "#0(0:1)", "#2(0:0)", "#0(@3())", "@2(1:1,1:1)"},
		{"1:2", "#2(0:1)", "#2(@3())", "@2(1:2,1:2)"},
		{"2:0", "#1(#0(0:1))", "#1(#2(0:0))", "@1(#2(0:0))", "@6(2:0)"},
		{"2:1", "#1(1:2)", "@1(1:0)", "#1(#2(0:1))", "@6(#1(#0(@0(@3()))))"},
	}
	for i, group := range groups {
		for _, a := range group {
			for k, others := range groups {
				for _, b := range others {
					if impl.SameMade(s, a, b) != (i == k) {
						t.Errorf("SameMade(%q, %q) returns %v", a, b, i != k)
					}
				}
			}
			for _, text := range []string{"", "x", "0:2", "3:0", "h()", "#0(1:0)", "@0(1:0)", "@3(", a + ")", a + " ", a[1:]} {
				if impl.SameMade(s, a, text) || impl.SameMade(s, text, a) {
					t.Errorf("SameMade returns true for %q and %q", a, text)
				}
			}
		}
	}
}

func TestRunTermOrdinary(t *testing.T) {
	s := systemOf(t, mixed)
	for term, want := range map[string]termRun{
		"0:0":                  {0, 0, "ok", []int{0, 0, 1}},
		"0:1":                  {1, 0, "ok", []int{1, 1, 0}},
		"1:2":                  {2, 1, "ok", []int{-1, 2, 1}},
		"2:1":                  {1, 2, "ok", []int{-1, -1, 1}},
		"f(0:1)":               {0, 0, "ok", []int{0, 0, 1}},
		"f(1:0)":               {1, 2, "ok", []int{-1, -1, 1}},
		"f(1:2)":               {0, 2, "ok", []int{-1, -1, 0}},
		"g(1:2,1:2)":           {2, 1, "ok", []int{-1, 2, 1}},
		"g(f(0:1),1:2)":        {0, 1, "ok", []int{-1, 0, 1}},
		"g(f(0:0),1:1)":        {1, 1, "ok", []int{-1, 1, 0}},
		"h()":                  {1, 0, "ok", []int{1, 1, 0}},
		"f(h())":               {0, 0, "ok", []int{0, 0, 1}},
		"i(h())":               {0, 2, "ok", []int{-1, -1, 0}},
		"i(f(h()))":            {1, 2, "ok", []int{-1, -1, 1}},
		"g(h(),h())":           {1, 1, "ok", []int{-1, 1, 0}},
		"k(1:2,0:0)":           {0, 0, "ok", []int{0, 0, 1}},
		"k(0:1,1:2)":           {1, 0, "ok", []int{1, 1, 0}},
		"k(h(),g(h(),h()))":    {0, 0, "ok", []int{0, 0, 1}},
		"g(f(1:0),1:1)":        {0, 0, "ok", []int{0, 0, 1}},
		"g(i(0:1),i(1:0))":     {1, 0, "ok", []int{1, 1, 0}},
		"f(f(1:1))":            noRun("none"),
		"j(0:0)":               noRun("none"),
		"i(j(0:0))":            noRun("none"),
		"f()":                  noRun("none"),
		"h(h())":               noRun("none"),
		"k(0:0,0:0)":           noRun("many"),
		"f(k(h(),h()))":        noRun("many"),
		"g(k(h(),h()),j())":    noRun("many"),
		"g(j(),k(h(),h()))":    noRun("none"),
		"0:2":                  noRun("unknown"),
		"3:0":                  noRun("unknown"),
		"9:9":                  noRun("unknown"),
		"f(0:2)":               noRun("unknown"),
		"f(3:0)":               noRun("unknown"),
		"g(1:3,j())":           noRun("unknown"),
		"g(j(),1:3)":           noRun("none"),
		"":                     noRun("unknown"),
		"x":                    noRun("unknown"),
		"f(0:0":                noRun("unknown"),
		"h())":                 noRun("unknown"),
		"@3()":                 noRun("unknown"),
		"#0(0:1)":              noRun("unknown"),
		"@2(#0(@0(0:1)),1:2)":  noRun("unknown"),
		"g(0:0,0:0,0:0)":       noRun("unknown"),
		"\x00":                 noRun("unknown"),
		strings.Repeat("f", 9): noRun("unknown"),
	} {
		checkRunTerm(t, s, term, want)
	}
	checkRunTerm(t, s, strings.Repeat("f(", 1000000), noRun("unknown"))
}

// TestRunAtShortestWay has types between which ways make different values, of which the shortest one, and of these the
// first one, is gone.
func TestRunAtShortestWay(t *testing.T) {
	for _, c := range []struct {
		text string
		term string
		want termRun
	}{
		{"2 2;0>1:1 0;0>1:0 1/f(1)1:1 0", "0:0", termRun{0, 0, "ok", []int{0, 1}}},
		{"2 2;0>1:1 0;0>1:0 1/f(1)1:1 0", "f(0:0)", termRun{0, 1, "ok", []int{-1, 0}}},
		{"2 2 2;0>1:0 1;1>2:0 1;0>2:1 0/f(2)0:0 1", "0:0", termRun{0, 0, "ok", []int{0, 0, 1}}},
		{"2 2 2;0>1:0 1;1>2:0 1;0>2:1 0/f(2)0:0 1", "f(0:0)", termRun{1, 0, "ok", []int{1, 1, 0}}},
		{"2 3 2 3;2>3:2 1;0>2:0 1;0>1:2 0;1>3:0 1 0/f(3)3:0 0 1", "f(0:0)", termRun{1, 3, "ok", []int{-1, -1, -1, 1}}},
		{"2 3 2 3;2>3:2 1;0>2:0 1;0>1:2 0;1>3:0 1 0/f(3)3:0 0 1", "0:1", termRun{1, 0, "ok", []int{1, 0, 1, 1}}},
	} {
		checkRunTerm(t, systemOf(t, c.text), c.term, c.want)
	}
}

// TestRunAtKindsOutOfRange has numbers that are no types, for terms of which something is made and for others.
func TestRunAtKindsOutOfRange(t *testing.T) {
	s := systemOf(t, mixed)
	for _, kind := range []int{-1, -2, 3, 4, 5, 9, 10, 1 << 32, most, least, least + 1} {
		for term, want := range map[string]string{"0:0": "none", "h()": "none", "f(1:0)": "none", "g(f(0:1),1:2)": "none", "j()": "none", "k(0:0,0:0)": "many", "0:2": "unknown", "x": "unknown", "": "unknown"} {
			if value, why := impl.RunAt(s, term, kind); value != -1 || why != want {
				t.Errorf("RunAt(%q, %d) returns %d, %q, not %q", term, kind, value, why, want)
			}
		}
	}
}

// TestRunWrongTypes has values of wrong types, within coercions and calls and alone.
func TestRunWrongTypes(t *testing.T) {
	s := systemOf(t, mixed)
	for _, text := range []string{
		"0:2", "0:3", "1:3", "2:2", "3:0", "4:0", "5:0", "9:9",
		"#0(0:2)", "#1(1:3)", "#0(1:0)", "#0(2:0)", "#1(0:0)", "#1(2:0)", "#0(#0(0:0))", "#1(#1(1:0))", "#0(#1(1:0))", "#3(0:0)", "#0(@1(1:0))",
		"@0(0:2)", "@0(1:0)", "@1(0:0)", "@1(2:0)", "@2(0:0,1:0)", "@2(1:0,0:0)", "@2(1:3,1:0)", "@2(1:0,1:3)", "@4(1:0,0:0)", "@5(0:0,1:0)", "@1(@0(0:0))", "@0(#0(0:0))", "@2(@3(),1:0)", "@8()",
		"@3(0:0)", "@0()", "@2(1:0)", "@2(1:0,1:0,1:0)", "@3(@3())", "#0()",
	} {
		checkNoRun(t, s, text)
		checkNoRun(t, s, "@0("+text+")")
		checkNoRun(t, s, "@4(0:0,"+text+")")
	}
	// All literals.
	for kind := range 10 {
		for value := range 10 {
			literal := strconv.Itoa(kind) + ":" + strconv.Itoa(value)
			if kind < len(s.Sizes) && value < s.Sizes[kind] {
				checkRun(t, s, literal, runAnswers{value, kind, []int{value}, ""})
				continue
			}
			checkNoRun(t, s, literal)
			checkRunTerm(t, s, literal, noRun("unknown"))
			checkRunTerm(t, s, "i("+literal+")", noRun("unknown"))
		}
	}
}

func TestRunTextsThatAreNotMade(t *testing.T) {
	s := systemOf(t, mixed)
	for _, text := range textsOfNoMade() {
		checkNoRun(t, s, text)
	}
	for _, made := range givenMades {
		for i := range len(made) {
			checkNoRun(t, s, made[:i])
		}
		for _, more := range []string{")", "(", ",", " ", "0", "\x00", made} {
			checkNoRun(t, s, made+more)
		}
	}
}

// givenLiterals are the literals in a text.
var givenLiterals = regexp.MustCompile(`[0-9]:[0-9]`)

// runByDefinition tells what is wanted for an explicit term of a valid system: again and again the literal of its value
// stands in place of what ends with the first `)`.
func runByDefinition(s impl.System, made string) runAnswers {
	var want runAnswers
	// The values of literals up to here are among the steps.
	counted := 0
	for {
		end := strings.IndexByte(made, ')')
		before := made
		if end >= 0 {
			before = made[:end]
		}
		for _, literal := range givenLiterals.FindAllString(before[counted:], -1) {
			want.steps = append(want.steps, int(literal[2]-'0'))
		}
		if end < 0 {
			break
		}
		begin := strings.LastIndexByte(before, '(') - 2
		literal := doneByDefinition(s, made[begin:end+1])
		want.steps = append(want.steps, int(literal[2]-'0'))
		made = made[:begin] + literal + made[end+1:]
		if want.next == "" {
			want.next = made
		}
		counted = begin + len(literal)
	}
	want.kind, want.value = int(made[0]-'0'), int(made[2]-'0')
	return want
}

// doneByDefinition tells the literal of a coercion or call that has only literals within it.
func doneByDefinition(s impl.System, part string) string {
	var values []int
	for _, literal := range givenLiterals.FindAllString(part, -1) {
		values = append(values, int(literal[2]-'0'))
	}
	i := int(part[1] - '0')
	kind, value := -1, -1
	if part[0] == '#' {
		kind, value = s.Coercions[i].To, impl.ApplyCoercion(s.Types, i, values[0])
	} else {
		kind, value = s.Functions[i].Result, impl.CallFunction(s, i, values)
	}
	return strconv.Itoa(kind) + ":" + strconv.Itoa(value)
}

// TestRunGivenMades compares explicit terms of all sorts with the definition.
func TestRunGivenMades(t *testing.T) {
	s := systemOf(t, mixed)
	for _, made := range givenMades {
		checkRun(t, s, made, runByDefinition(s, made))
	}
}

// TestRunEdits compares edits of explicit terms, of which few are some, with the definition.
func TestRunEdits(t *testing.T) {
	s := systemOf(t, mixed)
	for _, made := range []string{"0:1", "@3()", "#1(#2(@0(0:1)))", "@4(@0(@3()),#2(0:0))"} {
		seen := map[bool]int{}
		for edit := range edits(made) {
			_, ok := kindByDefinition(s, edit)
			seen[ok]++
			if ok {
				checkRun(t, s, edit, runByDefinition(s, edit))
			} else {
				checkNoRun(t, s, edit)
			}
			if t.Failed() {
				t.FailNow()
			}
		}
		if seen[true] < 3 || seen[false] < 1000 {
			t.Errorf("of the edits of %q, %d are explicit terms, and %d are not", made, seen[true], seen[false])
		}
	}
}

// allMades are, for each type, all explicit terms of a system that have at most so many parts within each other.
func allMades(s impl.System, depth int) [][]string {
	byKind := make([][]string, len(s.Sizes))
	for _, literal := range literalsOf(s) {
		kind := int(literal[0] - '0')
		byKind[kind] = append(byKind[kind], literal)
	}
	if depth == 1 {
		return byKind
	}
	within := allMades(s, depth-1)
	for i, c := range s.Coercions {
		for _, made := range within[c.From] {
			byKind[c.To] = append(byKind[c.To], wrapped(made, []int{i}))
		}
	}
	for i, f := range s.Functions {
		rows := []string{""}
		for place, kind := range f.Args {
			var longer []string
			for _, row := range rows {
				for _, made := range within[kind] {
					if place > 0 {
						made = row + "," + made
					}
					longer = append(longer, made)
				}
			}
			rows = longer
		}
		for _, row := range rows {
			byKind[f.Result] = append(byKind[f.Result], "@"+strconv.Itoa(i)+"("+row+")")
		}
	}
	return byKind
}

// TestRunAllMades compares all small explicit terms of some systems with the definition.
func TestRunAllMades(t *testing.T) {
	for _, c := range []struct {
		text  string
		depth int
		count int
	}{
		{"2 3;0>1:2 0;0>1:1 2/f(0)0:1 0/g(0,1)1:2 1 0 0 2 1/h()1:2", 4, 432},
		{"3 2;0>1:0 1 1/f(0,0)0:1 2 0 0 2 1 2 0 2/f(1)0:2 1", 3, 220},
		{"1 2 2;0>2:1;0>1:0;1>2:1 0/k()0:0/k(2)1:1 0/k(1,0)2:1 0", 5, 116},
	} {
		s := systemOf(t, c.text)
		seen := 0
		for kind, mades := range allMades(s, c.depth) {
			for _, made := range mades {
				want := runByDefinition(s, made)
				if want.kind != kind {
					t.Fatalf("%s: %q is of the type %d", c.text, made, want.kind)
				}
				checkRun(t, s, made, want)
				seen++
			}
		}
		if seen != c.count {
			t.Errorf("%s: there are %d explicit terms, not %d", c.text, seen, c.count)
		}
	}
}

// TestRunManySystems compares pseudo-random explicit terms of a fixed seed with the definition.
func TestRunManySystems(t *testing.T) {
	source := rand.New(rand.NewSource(8))
	seen := map[string]int{}
	for n := range 60 {
		s := someSystem(source, 4+n%5, 1+n%6)
		last := "0:0"
		for range 30 {
			made, _ := someMade(source, s, source.Intn(len(s.Sizes)), 1<<source.Intn(11))
			if len(made) > impl.MaxMade {
				checkNoRun(t, s, made)
				seen["long"]++
				continue
			}
			want, other := runByDefinition(s, made), runByDefinition(s, last)
			checkRun(t, s, made, want)
			same := want.value == other.value && want.kind == other.kind
			if impl.SameMade(s, made, last) != same || impl.SameMade(s, last, made) != same {
				t.Errorf("%s: SameMade(%q, %q) returns %v", impl.FormatSystem(s), made, last, !same)
			}
			seen["same "+strconv.FormatBool(same)]++
			seen["steps "+strconv.Itoa(min(len(want.steps), 9))]++
			last = made
			if t.Failed() {
				t.FailNow()
			}
		}
	}
	for _, kind := range []string{"long", "same true", "same false", "steps 1", "steps 2", "steps 3", "steps 9"} {
		t.Log(kind, seen[kind])
		if seen[kind] < 20 {
			t.Errorf("%s: %d explicit terms are too few", kind, seen[kind])
		}
	}
}

// TestRunTermManySystems runs pseudo-random terms of a fixed seed in pseudo-random systems.
func TestRunTermManySystems(t *testing.T) {
	source := rand.New(rand.NewSource(80))
	seen := map[string]int{}
	for n := range 60 {
		s := someSystem(source, 4+n%5, 1+n%4)
		for range 100 {
			term := someTree(source, 3+source.Intn(25))
			fit(source, s, &term)
			made := elaborateByDefinition(s, term)
			want := noRun(made.why)
			if made.why == "ok" {
				want.kind, want.value = made.kind, runByDefinition(s, made.made).value
				for kind := range s.Sizes {
					at, why := atByDefinition(s, made, kind)
					if why == "ok" {
						want.at = append(want.at, runByDefinition(s, at).value)
					} else {
						want.at = append(want.at, -1)
					}
				}
			}
			checkRunTerm(t, s, term.text(), want)
			seen[want.why]++
			if t.Failed() {
				t.FailNow()
			}
		}
	}
	for _, why := range []string{"ok", "none", "many", "unknown"} {
		t.Log(why, seen[why])
		if seen[why] < 50 {
			t.Errorf("%s: %d terms are too few", why, seen[why])
		}
	}
}

// TestRunLimits has explicit terms up to the limit, and texts that are longer than it.
func TestRunLimits(t *testing.T) {
	s := systemOf(t, "2 3;0>1:0 1/f(0)0:1 0/g(0,0)0:0 0 0 1/f(1)0:0 0 1/h()0:1")
	for _, bytes := range []int{30, 31, 100, 255, 256, 395, 396, 397, 398, 399, 400, 401, 402, 403, 404, 405, 460} {
		made, _ := madeOfLength(bytes)
		if bytes <= 400 {
			checkRun(t, s, made, runByDefinition(s, made))
		} else {
			checkNoRun(t, s, made)
		}
	}
	// As many calls within each other as there may be: each one makes another value of the last one.
	deep := "@3()"
	steps := []int{1}
	for n := range 99 {
		deep, steps = "@0("+deep+")", append(steps, n%2)
	}
	checkRun(t, s, deep, runAnswers{0, 0, steps, strings.Repeat("@0(", 99) + "0:1" + strings.Repeat(")", 99)})
	checkNoRun(t, s, "@0("+deep+")")
	checkNoRun(t, s, deep+" ")
	// As many parts beside each other.
	wide := "0:1"
	for len(wide)+9 <= impl.MaxMade {
		wide = "@1(" + wide + ",@3())"
	}
	checkRun(t, s, wide, runByDefinition(s, wide))
	for _, other := range []string{"@3()", "0:0"} {
		if impl.SameMade(s, "@0("+deep+")", other) || impl.SameMade(s, other, "@0("+deep+")") {
			t.Errorf("SameMade returns true for a text that is too long and %q", other)
		}
	}
}

// TestRunTermLongest has the term of which the longest explicit term is made, which has as many bytes as there may be.
func TestRunTermLongest(t *testing.T) {
	s := systemOf(t, "2 2 2 2 2;0>1:0 1;1>2:1 0;2>3:1 0;3>4:1 0/f(4)0:0 1/h()0:1")
	term := strings.Repeat("f(", 19) + "h()" + strings.Repeat(")", 19)
	// Each call makes another value of the one within it, of which there are nineteen.
	checkRunTerm(t, s, term, termRun{0, 0, "ok", []int{0, 0, 1, 0, 1}})
	checkRunTerm(t, s, "f("+term+")", noRun("unknown"))
	checkRunTerm(t, s, term+" ", noRun("unknown"))
	made, _ := impl.ElaborateAt(s, term, 4)
	if len(made) != impl.MaxMade {
		t.Errorf("%q has %d bytes", made, len(made))
	}
	checkRun(t, s, made, runByDefinition(s, made))
}

func TestInvalidSystemsRunNothing(t *testing.T) {
	bad := badSystems()
	bad["zero value"] = impl.System{}
	for reason, s := range bad {
		for _, text := range []string{"", "0:0", "0:1", "1:0", "f()", "f(0:0)", "k(0:0)", "f(0:0,0:0)", "0:9", "x"} {
			checkRunTerm(t, s, text, noRun("unknown"))
			checkNoRun(t, s, text)
		}
		for _, text := range []string{"@0()", "@1()", "@0(0:0)", "@0(1:0,0:0)", "#0(0:0)", "#0(@0())", "#1(1:0)"} {
			checkNoRun(t, s, text)
		}
		if t.Failed() {
			t.Fatal(reason)
		}
	}
}

func TestRunningKeepsMemory(t *testing.T) {
	s := spareSystem(systemOf(t, mixed))
	arguments := systemCells(s)
	before, names := numbersAt(arguments), namesAt(s)
	for _, made := range append(slices.Clone(givenMades), "@2(1:0,1:0)", "x", "") {
		// Memory that can be told from that of other texts.
		made = strings.Clone(made)
		bytes := [][]*byte{byteCells(made)}
		lists := [][]*int{arguments}
		for _, f := range s.Functions {
			bytes = append(bytes, byteCells(f.Name))
		}
		for range 2 {
			impl.RunMade(s, made)
			impl.SameMade(s, made, made)
			steps, _ := impl.StepsOf(s, made)
			normal, _ := impl.Normal(s, made)
			next, _ := impl.StepMade(s, made)
			bytes = append(bytes, byteCells(normal), byteCells(next))
			lists = append(lists, numberCells(steps))
		}
		impl.RunTerm(s, "g(f(0:1),1:2)")
		impl.RunAt(s, "i(f(0:1))", 2)
		checkApart(t, bytes...)
		checkApart(t, lists...)
		if after := numbersAt(arguments); !slices.Equal(before, after) || !slices.Equal(names, namesAt(s)) {
			t.Errorf("%q: the system was %v, %q and is %v, %q", made, before, names, after, namesAt(s))
		}
	}
}

// TestRunningKeepsNoState asks the same of systems between which others were asked about, and of one that has changed.
func TestRunningKeepsNoState(t *testing.T) {
	s, other := systemOf(t, "2 3;0>1:0 1/f(0)0:1 0/g(1)1:1 0 2"), systemOf(t, "2 3;0>1:2 1/f(0)0:0 0/g(1)1:1 0 2")
	for range 3 {
		checkRun(t, s, "@1(#0(@0(0:1)))", runAnswers{1, 1, []int{1, 0, 0, 1}, "@1(#0(0:0))"})
		checkRun(t, other, "@1(#0(@0(0:1)))", runAnswers{2, 1, []int{1, 0, 2, 2}, "@1(#0(0:0))"})
		checkRunTerm(t, s, "g(f(0:1))", termRun{1, 1, "ok", []int{-1, 1}})
		checkRunTerm(t, other, "g(f(0:1))", termRun{2, 1, "ok", []int{-1, 2}})
		checkNoRun(t, impl.System{}, "@1(#0(@0(0:1)))")
		steps, _ := impl.StepsOf(s, "@1(#0(@0(0:1)))")
		steps[0], steps[3] = -7, -7
	}
	s.Functions[0].Table[1] = 1
	checkRun(t, s, "@1(#0(@0(0:1)))", runAnswers{0, 1, []int{1, 1, 1, 0}, "@1(#0(0:1))"})
	s.Coercions[0].Map[1] = 2
	checkRun(t, s, "@1(#0(@0(0:1)))", runAnswers{2, 1, []int{1, 1, 2, 2}, "@1(#0(0:1))"})
	checkRunTerm(t, s, "f(0:0)", termRun{1, 0, "ok", []int{1, 2}})
	s.Functions[0].Table[1] = 2
	checkNoRun(t, s, "@1(#0(@0(0:1)))")
	checkRunTerm(t, s, "f(0:0)", noRun("unknown"))
}

// TestRunningTogether runs explicit terms in the same system at the same time; it is for the race detector too.
func TestRunningTogether(t *testing.T) {
	s := systemOf(t, mixed)
	const made = "@4(@0(@3()),@2(1:0,#2(0:0)))"
	done := make(chan bool)
	for range 8 {
		go func() {
			value, kind, ok := impl.RunMade(s, made)
			steps, has := impl.StepsOf(s, made)
			next, isNext := impl.StepMade(s, made)
			normal, isNormal := impl.Normal(s, made)
			of, ofKind, why := impl.RunTerm(s, "g(f(0:0),1:1)")
			at, whyAt := impl.RunAt(s, "g(f(0:0),1:1)", 2)
			done <- value == 0 && kind == 0 && ok && slices.Equal(steps, []int{1, 0, 0, 0, 1, 0, 0}) && has && next == "@4(@0(0:1),@2(1:0,#2(0:0)))" && isNext &&
				normal == "0:0" && isNormal && impl.SameMade(s, made, next) && of == 1 && ofKind == 1 && why == "ok" && at == 0 && whyAt == "ok"
		}()
	}
	for range 8 {
		if !<-done {
			t.Error("answers differ")
		}
	}
}

// TestRunningLeavesNoGoroutines runs explicit terms again and again, after which no goroutine of theirs is left.
func TestRunningLeavesNoGoroutines(t *testing.T) {
	s := systemOf(t, mixed)
	before := runtime.NumGoroutine()
	for range 200 {
		for _, made := range givenMades {
			impl.RunMade(s, made)
			impl.StepsOf(s, made)
			impl.StepMade(s, made)
			impl.Normal(s, made)
			impl.SameMade(s, made, "x")
			impl.SameMade(s, "x", made)
		}
		impl.RunTerm(s, "g(f(0:1),1:2)")
		impl.RunAt(s, "g(f(0:1),1:2)", 0)
	}
	checkGoroutines(t, before)
}
