package tests

import (
	"math/rand"
	"slices"
	"strconv"
	"strings"
	"testing"

	"loop.example/overloads/impl"
)

// A choice is what a rule returns.
type choice struct {
	index int
	word  string
}

// answers are what the functions of the chapter return for a call, the costs being those of the applicable functions.
type answers struct {
	applicable []int
	costs      []int
	least      []int
	below      choice
	byCost     choice
}

// one, many and none are what rules return.
func one(i int) choice {
	return choice{i, "one"}
}

var (
	many = choice{-1, "many"}
	none = choice{-1, "none"}
)

// nothing is what is returned for a call that no function is applicable to.
var nothing = answers{below: none, byCost: none}

// checkAnswers compares what is returned for a call with what is wanted.
func checkAnswers(t *testing.T, s impl.System, name string, kinds []int, want answers) {
	t.Helper()
	wrong := func(function string, got any, want any) {
		t.Helper()
		shown := kinds[:min(len(kinds), 5)]
		t.Errorf("%s: of %.20q and %d types %v, %s returns %v, not %v", impl.FormatSystem(s), name, len(kinds), shown, function, got, want)
	}
	if got := impl.ApplicableOf(s, name, kinds); !slices.Equal(got, want.applicable) {
		wrong("ApplicableOf", got, want.applicable)
	}
	if got := impl.LeastOf(s, name, kinds); !slices.Equal(got, want.least) {
		wrong("LeastOf", got, want.least)
	}
	if i, word := impl.ResolveCall(s, name, kinds); i != want.below.index || word != want.below.word {
		wrong("ResolveCall", choice{i, word}, want.below)
	}
	if i, word := impl.ResolveByCost(s, name, kinds); i != want.byCost.index || word != want.byCost.word {
		wrong("ResolveByCost", choice{i, word}, want.byCost)
	}
	if got := impl.RulesAgree(s, name, kinds); got != (want.below == want.byCost) {
		wrong("RulesAgree", got, !got)
	}
	for i, f := range s.Functions {
		cost := -1
		if n := slices.Index(want.applicable, i); n >= 0 {
			cost = want.costs[n]
		} else if f.Name != name && impl.SystemValid(s) {
			// CostOf asks for no name, so that functions of another name may well have a cost.
			continue
		}
		if got := impl.CostOf(s, i, kinds); got != cost {
			wrong("CostOf "+strconv.Itoa(i), got, cost)
		}
	}
}

// chosen are the answers for a call for which both rules choose the same function.
func chosen(i int, applicable []int, costs []int) answers {
	return answers{applicable, costs, []int{i}, one(i), one(i)}
}

func TestResolveUnary(t *testing.T) {
	const pair = "2 3;0>1:0 1/f(0)0:1 0/f(1)1:1 0 2"
	for _, c := range []struct {
		text  string
		kinds []int
		want  answers
	}{
		{pair, []int{0}, chosen(0, []int{0, 1}, []int{0, 1})},
		{pair, []int{1}, chosen(1, []int{1}, []int{0})},
		{pair, []int{0, 0}, nothing},
		{pair, nil, nothing},
		// It does not matter which stands first.
		{"1 1;0>1:0/f(1)1:0/f(0)0:0", []int{0}, chosen(1, []int{0, 1}, []int{1, 0})},
		// Without a coercion only the type itself will do.
		{"1 1/f(0)0:0/f(1)1:0", []int{0}, chosen(0, []int{0}, []int{0})},
		{"1 1/f(1)1:0", []int{0}, nothing},
		// No coercion leads back.
		{"1 1;0>1:0/f(0)0:0", []int{1}, nothing},
		// A way of several coercions, as long as there may be.
		{"1 1 1 1 1;0>1:0;1>2:0;2>3:0;3>4:0/f(4)0:0", []int{0}, chosen(0, []int{0}, []int{4})},
		{"1 1 1 1 1;3>4:0;2>3:0;1>2:0;0>1:0/f(4)0:0/f(3)0:0/f(2)0:0", []int{0}, chosen(2, []int{0, 1, 2}, []int{4, 3, 2})},
		// The types of the results do not matter.
		{"1 1 1;0>1:0;1>2:0/f(2)0:0/f(1)2:0/f(0)1:0", []int{0}, chosen(2, []int{0, 1, 2}, []int{2, 1, 0})},
		// Functions of other names do not matter, nor do those with other numbers of arguments.
		{"1 1;0>1:0/g(0)0:0/f()0:0/f(0,0)0:0/f(1)0:0", []int{0}, chosen(3, []int{3}, []int{1})},
		// Neither type is above the other one, and the costs are the same.
		{"1 1 1;0>1:0;0>2:0/f(1)0:0/f(2)0:0", []int{0}, answers{[]int{0, 1}, []int{1, 1}, []int{0, 1}, many, many}},
		// Neither type is above the other one, but one costs less.
		{"1 1 1 1;0>1:0;0>2:0;2>3:0/f(3)0:0/f(1)0:0", []int{0}, answers{[]int{0, 1}, []int{2, 1}, []int{0, 1}, many, one(1)}},
		// A third one is above both of them.
		{"1 1 1 1;0>1:0;0>2:0;1>3:0;2>3:0/f(3)0:0/f(2)0:0/f(1)0:0", []int{0}, answers{[]int{0, 1, 2}, []int{2, 1, 1}, []int{1, 2}, many, many}},
		// A third one is below both of them.
		{"1 1 1;0>1:0;0>2:0/f(1)0:0/f(2)0:0/f(0)0:0", []int{0}, chosen(2, []int{0, 1, 2}, []int{1, 1, 0})},
		// One of them is above another one, the third is not.
		{"1 1 1 1;0>1:0;1>2:0;0>3:0/f(1)0:0/f(2)0:0/f(3)0:0", []int{0}, answers{[]int{0, 1, 2}, []int{1, 2, 1}, []int{0, 2}, many, many}},
	} {
		checkAnswers(t, systemOf(t, c.text), "f", c.kinds, c.want)
	}
}

// TestResolveShorterToLater has ways that are shorter to a later type, so that the rules choose different functions, or
// only one of them chooses any.
func TestResolveShorterToLater(t *testing.T) {
	for _, c := range []struct {
		text  string
		kinds []int
		want  answers
	}{
		{"2 2 2;0>1:0 1;1>2:0 1;0>2:0 1/f(1)0:0 0/f(2)0:1 1", []int{0}, answers{[]int{0, 1}, []int{1, 1}, []int{0}, one(0), many}},
		{"1 1 1 1;0>1:0;1>2:0;2>3:0;0>3:0/f(2)0:0/f(3)0:0", []int{0}, answers{[]int{0, 1}, []int{2, 1}, []int{0}, one(0), one(1)}},
		{"1 1 1 1;0>3:0;2>3:0;1>2:0;0>1:0/f(3)0:0/f(2)0:0", []int{0}, answers{[]int{0, 1}, []int{1, 2}, []int{1}, one(1), one(0)}},
		{"1 1 1 1 1;0>1:0;1>2:0;2>3:0;3>4:0;0>4:0/f(3)0:0/f(4)0:0/f(2)0:0", []int{0}, answers{[]int{0, 1, 2}, []int{3, 1, 2}, []int{2}, one(2), one(1)}},
		// The first argument makes the one cheaper, the second one the other one.
		{"1 1 1 1;0>1:0;1>2:0;2>3:0;0>3:0/f(2,0)0:0/f(3,1)0:0", []int{0, 0}, answers{[]int{0, 1}, []int{2, 2}, []int{0}, one(0), many}},
		{"1 1 1 1;0>1:0;1>2:0;2>3:0;0>3:0/f(0,2)0:0/f(0,3)0:0", []int{0, 0}, answers{[]int{0, 1}, []int{2, 1}, []int{0}, one(0), one(1)}},
		// The first way in order is longer than the shortest one.
		{"1 1 1;0>1:0;1>2:0;0>2:0/f(2)0:0", []int{0}, chosen(0, []int{0}, []int{1})},
	} {
		checkAnswers(t, systemOf(t, c.text), "f", c.kinds, c.want)
	}
}

func TestResolveBinary(t *testing.T) {
	const crossed = "2 2;0>1:0 1/f(0,1)0:0 1 0 1/f(1,0)1:0 0 1 1"
	const chain = "1 1 1;0>1:0;1>2:0"
	for _, c := range []struct {
		text  string
		kinds []int
		want  answers
	}{
		// That of the document: neither is below the other one.
		{crossed, []int{0, 0}, answers{[]int{0, 1}, []int{1, 1}, []int{0, 1}, many, many}},
		{crossed, []int{0, 1}, chosen(0, []int{0}, []int{0})},
		{crossed, []int{1, 0}, chosen(1, []int{1}, []int{0})},
		{crossed, []int{1, 1}, nothing},
		{crossed, []int{0}, nothing},
		{crossed, []int{0, 0, 0}, nothing},
		{crossed + "/f(0,0)0:0 0 0 0", []int{0, 0}, chosen(2, []int{0, 1, 2}, []int{1, 1, 0})},
		{crossed + "/f(1,1)0:0 0 0 0", []int{0, 0}, answers{[]int{0, 1, 2}, []int{1, 1, 2}, []int{0, 1}, many, many}},
		{crossed + "/f(1,1)0:0 0 0 0", []int{1, 1}, chosen(2, []int{2}, []int{0})},
		{crossed + "/f(1,1)0:0 0 0 0", []int{0, 1}, chosen(0, []int{0, 2}, []int{0, 1})},
		// Costs are added, so that of two that can't be compared one costs less.
		{chain + "/f(0,2)0:0/f(1,0)0:0", []int{0, 0}, answers{[]int{0, 1}, []int{2, 1}, []int{0, 1}, many, one(1)}},
		{chain + "/f(0,2)0:0/f(1,1)0:0/f(2,0)0:0", []int{0, 0}, answers{[]int{0, 1, 2}, []int{2, 2, 2}, []int{0, 1, 2}, many, many}},
		{chain + "/f(2,2)0:0/f(1,2)0:0/f(1,1)0:0", []int{0, 0}, chosen(2, []int{0, 1, 2}, []int{4, 3, 2})},
		{chain + "/f(2,2)0:0/f(1,2)0:0/f(1,1)0:0", []int{0, 2}, chosen(1, []int{0, 1}, []int{2, 1})},
		{chain + "/f(2,2)0:0/f(1,2)0:0/f(1,1)0:0", []int{2, 0}, chosen(0, []int{0}, []int{2})},
		// The least one is in the middle, and not the first one that costs least.
		{chain + "/f(1,2)0:0/f(0,1)0:0/f(2,1)0:0", []int{0, 1}, chosen(1, []int{0, 1, 2}, []int{2, 0, 2})},
	} {
		checkAnswers(t, systemOf(t, c.text), "f", c.kinds, c.want)
	}
}

func TestResolveWithoutArguments(t *testing.T) {
	s := systemOf(t, "2 2;0>1:0 1/f(0)0:0 1/h()0:0/f()1:1/f(0,0)0:0 0 0 0")
	for _, kinds := range [][]int{nil, {}, spare()} {
		checkAnswers(t, s, "f", kinds, chosen(2, []int{2}, []int{0}))
		checkAnswers(t, s, "h", kinds, chosen(1, []int{1}, []int{0}))
		checkAnswers(t, s, "g", kinds, nothing)
		checkAnswers(t, systemOf(t, "2 2;0>1:0 1/f(0)0:0 1"), "f", kinds, nothing)
	}
	checkAnswers(t, s, "h", []int{0}, nothing)
}

// TestResolveUpToLimits has as many functions of one name, and coercions, as there may be.
func TestResolveUpToLimits(t *testing.T) {
	const chain = "1 1 1 1 1;0>1:0;1>2:0;2>3:0;3>4:0;0>2:0;1>3:0;2>4:0;0>4:0"
	s := systemOf(t, chain+"/f(4,4)0:0/f(4,3)0:0/f(3,4)0:0/f(3,3)0:0/f(2,3)0:0/f(2,2)0:0/f(1,2)0:0/f(1,1)0:0")
	all := []int{0, 1, 2, 3, 4, 5, 6, 7}
	checkAnswers(t, s, "f", []int{0, 0}, answers{all, []int{2, 3, 3, 4, 3, 2, 2, 2}, []int{7}, one(7), many})
	checkAnswers(t, s, "f", []int{1, 1}, chosen(7, all, []int{4, 3, 3, 2, 2, 2, 1, 0}))
	checkAnswers(t, s, "f", []int{3, 3}, chosen(3, []int{0, 1, 2, 3}, []int{2, 1, 1, 0}))
	checkAnswers(t, s, "f", []int{4, 4}, chosen(0, []int{0}, []int{0}))
	checkAnswers(t, s, "f", []int{2, 0}, answers{all[:6], []int{2, 3, 2, 3, 2, 1}, []int{5}, one(5), one(5)})
	// Of eight, no two can be compared.
	s = systemOf(t, "1 1 1 1 1;0>1:0;0>2:0;0>3:0;0>4:0/f(1,1)0:0/f(1,2)0:0/f(2,1)0:0/f(2,2)0:0/f(3,4)0:0/f(4,3)0:0/f(3,3)0:0/f(4,4)0:0")
	checkAnswers(t, s, "f", []int{0, 0}, answers{all, []int{2, 2, 2, 2, 2, 2, 2, 2}, all, many, many})
}

// strangeNames are names that no function can have.
var strangeNames = []string{"", " ", "e", "l", "F", "ff", "fg", "f ", "f(", "\x00", "f\x00", "\xe6", "ſ", strings.Repeat("f", 100000)}

func TestResolveRefuses(t *testing.T) {
	for _, text := range goodSystems {
		s := systemOf(t, text)
		for _, name := range append(slices.Clone(strangeNames), "f", "k") {
			for _, kinds := range [][]int{{-1}, {len(s.Sizes)}, {most}, {least}, {0, -1}, {-1, 0}, {0, len(s.Sizes)}, {len(s.Sizes), 0}, {most, least}, {0, 0, 0}, {0, 0, -1}, make([]int, 100000)} {
				checkAnswers(t, s, name, kinds, nothing)
			}
		}
		for _, name := range strangeNames {
			for length := range 3 {
				checkAnswers(t, s, name, make([]int, length), nothing)
			}
		}
		for _, i := range []int{-1, least, len(s.Functions), len(s.Functions) + 1, most} {
			for length := range 4 {
				if got := impl.CostOf(s, i, make([]int, length)); got != -1 {
					t.Errorf("%s: CostOf(%d) with %d types returns %d", text, i, length, got)
				}
			}
		}
	}
}

func TestInvalidSystemsResolveNothing(t *testing.T) {
	bad := badSystems()
	bad["zero value"] = impl.System{}
	for reason, s := range bad {
		// The functions of the largest ones are left out, as each is asked about.
		if len(s.Functions) > 1000 {
			s.Functions = s.Functions[:1000]
		}
		for _, name := range []string{"f", "g", "k", ""} {
			for _, kinds := range [][]int{nil, {0}, {0, 0}, {1, 0}, {-1}} {
				checkAnswers(t, s, name, kinds, nothing)
			}
		}
		if t.Failed() {
			t.Fatal(reason)
		}
	}
}

// fewestCoercions tells by the definition how many coercions the shortest way has, and whether there is any.
func fewestCoercions(types impl.Types, from int, to int) (int, bool) {
	ways, _ := impl.WaysOf(types, from, to)
	if len(ways) == 0 {
		return 0, false
	}
	return len(slices.MinFunc(ways, func(a []int, b []int) int { return len(a) - len(b) })), true
}

// costByDefinition tells what a function costs with types, and whether it is applicable.
func costByDefinition(s impl.System, i int, kinds []int) (int, bool) {
	args := s.Functions[i].Args
	if len(args) != len(kinds) {
		return 0, false
	}
	sum := 0
	for place, kind := range kinds {
		cost, ok := fewestCoercions(s.Types, kind, args[place])
		if !ok {
			return 0, false
		}
		sum += cost
	}
	return sum, true
}

// answersByDefinition tells what is to be returned for a call in a valid system.
func answersByDefinition(s impl.System, name string, kinds []int) answers {
	want := nothing
	for i, f := range s.Functions {
		if cost, ok := costByDefinition(s, i, kinds); ok && f.Name == name {
			want.applicable = append(want.applicable, i)
			want.costs = append(want.costs, cost)
		}
	}
	if len(want.applicable) == 0 {
		return want
	}
	want.below, want.byCost = many, many
	for n, i := range want.applicable {
		under, over, cheaper := 0, 0, 0
		for m, k := range want.applicable {
			if impl.IsBelow(s, i, k) {
				under++
			}
			if impl.IsBelow(s, k, i) {
				over++
			}
			if want.costs[n] < want.costs[m] {
				cheaper++
			}
		}
		// Each function is below itself, and not cheaper than itself.
		if under == len(want.applicable) {
			want.below = one(i)
		}
		if over == 1 {
			want.least = append(want.least, i)
		}
		if cheaper == len(want.applicable)-1 {
			want.byCost = one(i)
		}
	}
	return want
}

// checkCosts compares what all functions cost, whatever their names, with the definition.
func checkCosts(t *testing.T, s impl.System, kinds []int) {
	t.Helper()
	for i := range s.Functions {
		want, ok := costByDefinition(s, i, kinds)
		if !ok {
			want = -1
		}
		if got := impl.CostOf(s, i, kinds); got != want {
			t.Errorf("%s: CostOf(%d, %v) returns %d, not %d", impl.FormatSystem(s), i, kinds, got, want)
		}
	}
}

// checkAllCalls compares what is returned for calls of some names, and costs, with the definitions; it counts how often
// each choice comes, and how often the rules do not agree.
func checkAllCalls(t *testing.T, s impl.System, names string, seen map[string]int) {
	t.Helper()
	for length := range impl.MaxArgs + 2 {
		for _, kinds := range rows(length, -1, len(s.Sizes)) {
			checkCosts(t, s, kinds)
			for _, name := range strings.Split(names, "") {
				want := answersByDefinition(s, name, kinds)
				checkAnswers(t, s, name, kinds, want)
				// By definition, one is below all if it alone has none below it.
				if (len(want.least) == 1) != (want.below.word == "one") {
					t.Errorf("%s: of %q %v, %v are least, but %v is chosen", impl.FormatSystem(s), name, kinds, want.least, want.below)
				}
				seen[want.below.word]++
				seen["cost "+want.byCost.word]++
				if want.below != want.byCost {
					seen["differ"]++
				}
			}
			if t.Failed() {
				t.FailNow()
			}
		}
	}
}

func TestResolveGivenSystems(t *testing.T) {
	for _, text := range goodSystems {
		checkAllCalls(t, systemOf(t, text), "efghk", map[string]int{})
	}
}

// TestResolveManySystems chooses in pseudo-random systems of a fixed seed.
func TestResolveManySystems(t *testing.T) {
	source := rand.New(rand.NewSource(5))
	seen := map[string]int{}
	for n := range 100 {
		s := impl.System{Types: someTypes(source, 4+n%5)}
		for range 16 {
			f := someFunction(source, s.Types)
			// With few names there are more functions of one name.
			f.Name = string(rune('f' + source.Intn(1+n%2)))
			if more, ok := impl.WithFunction(s, f); ok {
				s = more
			}
		}
		checkAllCalls(t, s, "fg", seen)
	}
	for _, kind := range []string{"none", "one", "many", "cost none", "cost one", "cost many", "differ"} {
		t.Log(kind, seen[kind])
		if seen[kind] < 50 {
			t.Errorf("%s: %d calls are too few", kind, seen[kind])
		}
	}
}

func TestResolvingKeepsMemory(t *testing.T) {
	for _, text := range append(slices.Clone(goodSystems), "1 1 1;0>1:0;0>2:0/f(1)0:0/f(2)0:0/f(1,2)0:0/f(2,1)0:0/f()0:0") {
		s := spareSystem(systemOf(t, text))
		for length := range 3 {
			kinds := spare(make([]int, length)...)
			arguments := slices.Concat(systemCells(s), numberCells(kinds))
			before, names := numbersAt(arguments), namesAt(s)
			lists := [][]*int{arguments}
			for range 2 {
				lists = append(lists, numberCells(impl.ApplicableOf(s, "f", kinds)), numberCells(impl.LeastOf(s, "f", kinds)))
				impl.ResolveCall(s, "f", kinds)
				impl.ResolveByCost(s, "f", kinds)
				impl.RulesAgree(s, "f", kinds)
				for i := range len(s.Functions) + 1 {
					impl.CostOf(s, i, kinds)
				}
			}
			checkApart(t, lists...)
			if after := numbersAt(arguments); !slices.Equal(before, after) || !slices.Equal(names, namesAt(s)) {
				t.Errorf("%s: arguments were %v, %q and are %v, %q", text, before, names, after, namesAt(s))
			}
		}
	}
}

// TestResolvingKeepsNoState asks the same of systems between which others were asked about, and of one that has changed.
func TestResolvingKeepsNoState(t *testing.T) {
	straight, crossed := systemOf(t, "1 1;0>1:0/f(1)0:0/f(0)0:0"), systemOf(t, "1 1 1;0>1:0;0>2:0/f(1)0:0/f(2)0:0")
	kinds := []int{0}
	for range 3 {
		checkAnswers(t, straight, "f", kinds, chosen(1, []int{0, 1}, []int{1, 0}))
		checkAnswers(t, crossed, "f", kinds, answers{[]int{0, 1}, []int{1, 1}, []int{0, 1}, many, many})
		checkAnswers(t, impl.System{}, "f", kinds, nothing)
		list := impl.ApplicableOf(straight, "f", kinds)
		list[0], list[1] = -7, -7
		list = impl.LeastOf(crossed, "f", kinds)
		list[0], list[1] = -7, -7
	}
	straight.Functions[1].Name = "g"
	checkAnswers(t, straight, "f", kinds, chosen(0, []int{0}, []int{1}))
	straight.Coercions = nil
	checkAnswers(t, straight, "f", kinds, nothing)
	kinds[0] = 1
	checkAnswers(t, straight, "f", kinds, chosen(0, []int{0}, []int{0}))
}

// TestResolvingTogether chooses in the same system at the same time; it is for the race detector too.
func TestResolvingTogether(t *testing.T) {
	s := systemOf(t, "1 1 1 1;0>1:0;1>2:0;2>3:0;0>3:0/f(2)0:0/f(3)0:0")
	done := make(chan bool)
	for range 8 {
		go func() {
			kinds := []int{0}
			i, word := impl.ResolveCall(s, "f", kinds)
			k, wordByCost := impl.ResolveByCost(s, "f", kinds)
			done <- i == 0 && word == "one" && k == 1 && wordByCost == "one" && !impl.RulesAgree(s, "f", kinds) &&
				slices.Equal(impl.ApplicableOf(s, "f", kinds), []int{0, 1}) && slices.Equal(impl.LeastOf(s, "f", kinds), []int{0}) && impl.CostOf(s, 0, kinds) == 2
		}()
	}
	for range 8 {
		if !<-done {
			t.Error("answers differ")
		}
	}
}
