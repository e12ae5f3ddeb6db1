package tests

import (
	"math/rand"
	"slices"
	"testing"

	"loop.example/overloads/impl"
)

// coherenceTexts are texts of types that are coherent or not, with coercions that are redundant or not.
var coherenceTexts = append(slices.Clone(wayTexts),
	"1",
	"4 4 4 4 4",
	"2 2 2;0>1:0 1;0>2:0 1;1>2:0 1",
	"1 2;0>1:0;0>1:1",
	"2 1;0>1:0 0;0>1:0 0",
	"2 2;0>1:0 1;0>1:1 0;0>1:0 1;0>1:1 0",
	"2 2 2;0>2:0 1;0>1:0 1;1>2:0 1;0>2:0 1",
	"2 2 2 2;0>1:0 1;1>2:0 1;2>3:0 1;0>2:0 1;1>3:0 1;0>3:0 1",
	"1 1;0>1:0;0>1:0;0>1:0;0>1:0;0>1:0;0>1:0;0>1:0;0>1:0",
	"4 4 4 4 4;0>1:1 2 3 0;1>2:1 2 3 0;2>3:1 2 3 0;3>4:1 2 3 0;0>2:2 3 0 1;2>4:2 3 0 1;1>3:2 3 0 1;0>4:0 1 2 3",
	"4 4 4 4 4;0>1:1 2 3 0;1>2:1 2 3 0;2>3:1 2 3 0;3>4:1 2 3 0;0>2:2 3 0 1;2>4:2 3 0 1;1>3:2 3 0 1;0>4:0 1 2 0",
	"3 3 3 3;1>2:0 1 2;2>3:0 1 2;1>3:0 1 1;0>1:0 0 1",
	"3 3 3 3;1>2:0 1 2;2>3:0 1 2;1>3:0 1 1;0>1:0 2 1;0>3:0 2 2",
)

// image tells what a row of coercions, which must be a way, makes of a value.
func image(types impl.Types, row []int, value int) int {
	for _, i := range row {
		value = types.Coercions[i].Map[value]
	}
	return value
}

// ways are all ways between all pairs of types.
type ways [impl.MaxTypes][impl.MaxTypes][][]int

// allWays goes through all short rows of coercions and keeps those that are ways.
func allWays(types impl.Types) ways {
	var table ways
	for _, row := range shortRows(types) {
		for from := range types.Sizes {
			if to, ok := isWayFrom(types, from, row); ok {
				table[from][to] = append(table[from][to], row)
			}
		}
	}
	for from := range table {
		for to := range table[from] {
			slices.SortFunc(table[from][to], slices.Compare[[]int])
		}
	}
	return table
}

// doubtAmong tells by the definition the doubt of two types, if there is one.
func doubtAmong(types impl.Types, list [][]int, from int, to int) (impl.Doubt, bool) {
	for i := range list {
		for value := range types.Sizes[from] {
			if image(types, list[i], value) != image(types, list[0], value) {
				return impl.Doubt{From: from, To: to, Value: value, First: list[0], Second: list[i]}, true
			}
		}
	}
	return impl.Doubt{}, false
}

// firstDoubt tells by the definition the first doubt of types, if there is one.
func firstDoubt(types impl.Types, table ways) (impl.Doubt, bool) {
	for from := range types.Sizes {
		for to := range types.Sizes {
			if doubt, ok := doubtAmong(types, table[from][to], from, to); ok {
				return doubt, true
			}
		}
	}
	return impl.Doubt{}, false
}

func sameDoubt(a impl.Doubt, b impl.Doubt) bool {
	return a.From == b.From && a.To == b.To && a.Value == b.Value && slices.Equal(a.First, b.First) && slices.Equal(a.Second, b.Second)
}

// redundantAmong tells by the definition whether a coercion is redundant.
func redundantAmong(types impl.Types, table ways, i int) bool {
	c := types.Coercions[i]
	for _, way := range table[c.From][c.To] {
		same := !slices.Equal(way, []int{i})
		for value := range c.Map {
			same = same && image(types, way, value) == c.Map[value]
		}
		if same {
			return true
		}
	}
	return false
}

// without returns types of the same text without a coercion.
func without(types impl.Types, i int) impl.Types {
	return impl.Types{Sizes: types.Sizes, Coercions: slices.Delete(slices.Clone(types.Coercions), i, i+1)}
}

// checkPair compares what is said of values between two types with what all ways make of them.
func checkPair(t *testing.T, types impl.Types, from int, to int, list [][]int, coherent bool) {
	t.Helper()
	text := impl.FormatTypes(types)
	_, doubted := doubtAmong(types, list, from, to)
	var closed []int
	agreed := true
	for value := range types.Sizes[from] {
		agree, want, shortest := true, -1, len(types.Coercions)+1
		for _, way := range list {
			made := image(types, way, value)
			agree = agree && made == image(types, list[0], value)
			if len(way) < shortest {
				want, shortest = made, len(way)
			}
		}
		if got := impl.AgreeAt(types, from, to, value); got != agree {
			t.Fatalf("%s: AgreeAt(%d, %d, %d) returns %v", text, from, to, value, got)
		}
		if got := impl.Coerce(types, from, to, value); got != want {
			t.Fatalf("%s: Coerce(%d, %d, %d) returns %d, not %d", text, from, to, value, got, want)
		}
		agreed = agreed && agree
		closed = append(closed, want)
	}
	if agreed == doubted {
		t.Fatalf("%s: all agree from %d to %d is %v, and there is a doubt is %v", text, from, to, agreed, doubted)
	}
	ok := coherent && len(list) > 0
	if !ok {
		closed = nil
	}
	if got, have := impl.ClosedMap(types, from, to); have != ok || !slices.Equal(got, closed) {
		t.Fatalf("%s: ClosedMap(%d, %d) returns %v, %v, not %v, %v", text, from, to, got, have, closed, ok)
	}
}

// checkReduced compares what is redundant, and what is left, with what the definitions say of all ways.
func checkReduced(t *testing.T, types impl.Types, table ways) {
	t.Helper()
	text := impl.FormatTypes(types)
	left := types
	for i := len(types.Coercions) - 1; i >= 0; i-- {
		if got := impl.IsRedundant(types, i); got != redundantAmong(types, table, i) {
			t.Fatalf("%s: IsRedundant(%d) returns %v", text, i, got)
		}
		if redundantAmong(left, allWays(left), i) {
			left = without(left, i)
		}
	}
	got, ok := impl.ReducedTypes(types)
	if !ok || impl.FormatTypes(got) != impl.FormatTypes(left) {
		t.Fatalf("%s: ReducedTypes returns %q, %v, not %q", text, impl.FormatTypes(got), ok, impl.FormatTypes(left))
	}
}

// checkCoherence compares all that chapter 3 tells of types with what the definitions say of all ways.
func checkCoherence(t *testing.T, types impl.Types) {
	t.Helper()
	text := impl.FormatTypes(types)
	table := allWays(types)
	want, doubted := firstDoubt(types, table)
	if got := impl.IsCoherent(types); got == doubted {
		t.Fatalf("%s: IsCoherent returns %v", text, got)
	}
	if got, ok := impl.DoubtOf(types); ok != doubted || !sameDoubt(got, want) {
		t.Fatalf("%s: DoubtOf returns %v, %v, not %v, %v", text, got, ok, want, doubted)
	}
	for from := range types.Sizes {
		for to := range types.Sizes {
			checkPair(t, types, from, to, table[from][to], !doubted)
		}
	}
	checkReduced(t, types, table)
}

func TestCoherenceOfGivenTypes(t *testing.T) {
	for _, text := range coherenceTexts {
		checkCoherence(t, typesOf(t, text))
	}
}

// TestCoherenceOfSmallTypes goes through all rows of at most three coercions between three types of two values.
func TestCoherenceOfSmallTypes(t *testing.T) {
	var links []impl.Coercion
	for _, pair := range [][2]int{{0, 1}, {0, 2}, {1, 2}} {
		for _, images := range rows(2, 0, 1) {
			links = append(links, link(pair[0], pair[1], images...))
		}
	}
	for length := range 4 {
		for _, row := range rows(length, 0, len(links)-1) {
			types := impl.Types{Sizes: []int{2, 2, 2}}
			for _, i := range row {
				types.Coercions = append(types.Coercions, links[i])
			}
			checkCoherence(t, types)
		}
	}
}

// someTypes returns types of any sizes with so many coercions that mostly keep values as they are, so that many ways agree.
func someTypes(source *rand.Rand, coercions int) impl.Types {
	types := impl.Types{Sizes: make([]int, impl.MaxTypes)}
	low := 1 + source.Intn(impl.MaxValues)
	for i := range types.Sizes {
		types.Sizes[i] = low + source.Intn(impl.MaxValues+1-low)
	}
	for range coercions {
		from := source.Intn(impl.MaxTypes - 1)
		to := from + 1 + source.Intn(impl.MaxTypes-1-from)
		images := make([]int, types.Sizes[from])
		for value := range images {
			images[value] = min(value, types.Sizes[to]-1)
			if source.Intn(8) == 0 {
				images[value] = source.Intn(types.Sizes[to])
			}
		}
		types.Coercions = append(types.Coercions, link(from, to, images...))
	}
	return types
}

func TestCoherenceOfManyTypes(t *testing.T) {
	source := rand.New(rand.NewSource(3))
	coherent := 0
	for n := range 900 {
		types := someTypes(source, n%7)
		checkCoherence(t, types)
		if impl.IsCoherent(types) {
			coherent++
		}
	}
	for range 20 {
		checkCoherence(t, someTypes(source, impl.MaxCoercions))
	}
	if coherent < 100 || coherent > 800 {
		t.Errorf("%d of 900 types are coherent: too few of one sort", coherent)
	}
}

func TestDoubtOf(t *testing.T) {
	for text, want := range map[string]impl.Doubt{
		// That of the document.
		"2 2 2;0>1:0 1;0>2:0 1;1>2:0 0": {From: 0, To: 2, Value: 1, First: []int{0, 2}, Second: []int{1}},
		// Several coercions between two types, and a type of one value.
		"1 2;0>1:0;0>1:1":             {From: 0, To: 1, Value: 0, First: []int{0}, Second: []int{1}},
		"2 2;0>1:0 1;0>1:0 1;0>1:0 0": {From: 0, To: 1, Value: 1, First: []int{0}, Second: []int{2}},
		// The second way is the first that differs, though a later one differs in a lesser value.
		"3 3;0>1:0 1 2;0>1:0 1 1;0>1:2 1 2": {From: 0, To: 1, Value: 2, First: []int{0}, Second: []int{1}},
		// The least of several values.
		"4 4;0>1:0 1 2 3;0>1:0 2 1 0": {From: 0, To: 1, Value: 1, First: []int{0}, Second: []int{1}},
		// The first way is that in the order of WaysOf, not the shortest one.
		"2 2 2;1>2:0 0;0>1:1 1;0>2:1 1": {From: 0, To: 2, Value: 0, First: []int{1, 0}, Second: []int{2}},
		// The first pair in the order of From and then of To, wherever the coercions stand.
		"2 2 2 2;2>3:0 1;2>3:1 0;1>3:0 1;1>3:0 0;1>2:0 0;1>2:1 1": {From: 1, To: 2, Value: 0, First: []int{4}, Second: []int{5}},
		"2 2 2 2;1>2:0 1;1>2:1 0;0>3:0 1;0>3:0 0":                 {From: 0, To: 3, Value: 1, First: []int{2}, Second: []int{3}},
		// What differs on the way need not differ in the end.
		"2 2 1 2;0>1:0 1;0>1:1 0;1>2:0 0;2>3:1": {From: 0, To: 1, Value: 0, First: []int{0}, Second: []int{1}},
		// The last pair of types, at the limits.
		"4 4 4 4 4;3>4:0 1 2 3;3>4:0 1 2 2": {From: 3, To: 4, Value: 3, First: []int{0}, Second: []int{1}},
		// Of eighteen ways, the last one alone comes to something else.
		"1 1 1 2;0>1:0;0>1:0;0>1:0;1>2:0;1>2:0;1>2:0;2>3:0;2>3:1": {From: 0, To: 3, Value: 0, First: []int{0, 3, 6}, Second: []int{0, 3, 7}},
	} {
		types := typesOf(t, text)
		if got, ok := impl.DoubtOf(types); !ok || !sameDoubt(got, want) {
			t.Errorf("%s: DoubtOf returns %v, %v, not %v", text, got, ok, want)
		}
		if impl.IsCoherent(types) {
			t.Errorf("%s: IsCoherent returns true", text)
		}
		if got, ok := impl.ClosedMap(types, 0, 0); ok || len(got) != 0 {
			t.Errorf("%s: ClosedMap(0, 0) returns %v, %v", text, got, ok)
		}
	}
}

func TestCoherentTypes(t *testing.T) {
	for _, text := range []string{
		"1", "4", "4 4 4 4 4", "2 3;0>1:0 2", "2 2 2;0>1:0 1;0>2:0 1;1>2:0 1", "2 2;0>1:1 0;0>1:1 0",
		// Into a type of one value, all ways agree.
		"4 1;0>1:0 0 0 0;0>1:0 0 0 0", "4 2 1;0>1:0 0 0 0;1>2:0 0;0>2:0 0 0 0",
		// Turns that come to the same by eight ways.
		"4 4 4 4 4;0>1:1 2 3 0;1>2:1 2 3 0;2>3:1 2 3 0;3>4:1 2 3 0;0>2:2 3 0 1;2>4:2 3 0 1;1>3:2 3 0 1;0>4:0 1 2 3",
		// Coercions of which no two lead from one type to one other.
		"2 2 2 2;0>1:0 1;0>2:1 0;1>3:0 0;0>3:0 0",
	} {
		types := typesOf(t, text)
		if !impl.IsCoherent(types) {
			t.Errorf("%s: IsCoherent returns false", text)
		}
		if got, ok := impl.DoubtOf(types); ok || !sameDoubt(got, impl.Doubt{}) {
			t.Errorf("%s: DoubtOf returns %v, %v", text, got, ok)
		}
	}
}

// TestWayDoesNotMatter is promise 3: in coherent types, each way makes what ClosedMap and Coerce say.
func TestWayDoesNotMatter(t *testing.T) {
	for _, text := range coherenceTexts {
		types := typesOf(t, text)
		if !impl.IsCoherent(types) {
			continue
		}
		for from, size := range types.Sizes {
			for to := range types.Sizes {
				closed, ok := impl.ClosedMap(types, from, to)
				list, _ := impl.WaysOf(types, from, to)
				if ok != (len(list) > 0) || ok && len(closed) != size {
					t.Errorf("%s: ClosedMap(%d, %d) returns %v, %v", text, from, to, closed, ok)
				}
				for _, way := range list {
					for value, want := range closed {
						if impl.GoWay(types, from, way, value) != want || impl.Coerce(types, from, to, value) != want || !impl.AgreeAt(types, from, to, value) {
							t.Errorf("%s: the way %v from %d does not make %d of %d", text, way, from, want, value)
						}
					}
				}
			}
		}
	}
}

func TestCoerceGoesTheShortestWay(t *testing.T) {
	for _, c := range []struct {
		text            string
		from, to, value int
		want            int
	}{
		{"2 2 2;0>1:0 1;0>2:0 1;1>2:0 0", 0, 2, 1, 1},
		{"2 2 2;0>1:0 1;0>2:0 1;1>2:0 0", 1, 2, 1, 0},
		{"2 2 2;0>1:0 1;0>2:0 1;1>2:0 0", 1, 1, 1, 1},
		// The first one of the shortest ways.
		{"1 4;0>1:3;0>1:2;0>1:1", 0, 1, 0, 3},
		{"1 1 4;1>2:3;0>1:0;1>2:2;0>2:1;0>2:0", 0, 2, 0, 1},
		{"2 2 2 2;0>1:0 1;1>2:1 0;2>3:1 1;1>3:1 0;0>2:0 1;2>3:0 0", 0, 3, 0, 1},
		// No way.
		{"2 2 2;0>1:0 1;0>2:0 1;1>2:0 0", 2, 0, 1, -1},
		{"2 2 2;0>1:0 1;0>2:0 1", 1, 2, 0, -1},
	} {
		if got := impl.Coerce(typesOf(t, c.text), c.from, c.to, c.value); got != c.want {
			t.Errorf("%s: Coerce(%d, %d, %d) returns %d, not %d", c.text, c.from, c.to, c.value, got, c.want)
		}
	}
}

func TestAgreeAt(t *testing.T) {
	types := typesOf(t, "3 3 3;0>1:0 1 2;0>1:0 2 2;0>1:0 1 1;1>2:0 1 1")
	for _, c := range []struct {
		from, to, value int
		want            bool
	}{
		{0, 1, 0, true}, {0, 1, 1, false}, {0, 1, 2, false},
		// What differs in 1 comes to the same in 2.
		{0, 2, 0, true}, {0, 2, 1, true}, {0, 2, 2, true},
		{1, 2, 2, true}, {0, 0, 2, true},
		// Of no ways, all make the same.
		{1, 0, 0, true}, {2, 0, 2, true}, {2, 1, 1, true},
	} {
		if got := impl.AgreeAt(types, c.from, c.to, c.value); got != c.want {
			t.Errorf("AgreeAt(%d, %d, %d) returns %v", c.from, c.to, c.value, got)
		}
	}
	// A value is one of the type with which the ways begin, not of that to which they lead.
	types = typesOf(t, "1 4;0>1:3")
	if impl.AgreeAt(types, 0, 1, 1) || !impl.AgreeAt(types, 1, 0, 3) || impl.Coerce(types, 0, 1, 3) != -1 {
		t.Error("a value of the other type counts")
	}
}

func TestReducedTypes(t *testing.T) {
	for _, c := range []struct {
		text      string
		redundant []bool
		reduced   string
	}{
		{"2 2", nil, "2 2"},
		{"2 3;0>1:0 2", []bool{false}, "2 3;0>1:0 2"},
		{"2 2 2;0>1:0 1;0>2:0 1;1>2:0 1", []bool{false, true, false}, "2 2 2;0>1:0 1;1>2:0 1"},
		{"2 2 2;0>1:0 1;0>2:0 1;1>2:0 0", []bool{false, false, false}, "2 2 2;0>1:0 1;0>2:0 1;1>2:0 0"},
		// Each is redundant beside the others, but not all are together: the first ones stay.
		{"1 1;0>1:0;0>1:0", []bool{true, true}, "1 1;0>1:0"},
		{"1 1;0>1:0;0>1:0;0>1:0;0>1:0;0>1:0;0>1:0;0>1:0;0>1:0", []bool{true, true, true, true, true, true, true, true}, "1 1;0>1:0"},
		{"2 2;0>1:0 1;0>1:1 0;0>1:0 1;0>1:1 0", []bool{true, true, true, true}, "2 2;0>1:0 1;0>1:1 0"},
		{"2 2;0>1:0 1;0>1:1 0;0>1:1 1;0>1:1 0", []bool{false, true, false, true}, "2 2;0>1:0 1;0>1:1 0;0>1:1 1"},
		// A way of several coercions replaces both coercions that are alike.
		{"2 2 2;0>2:0 1;0>1:0 1;1>2:0 1;0>2:0 1", []bool{true, false, false, true}, "2 2 2;0>1:0 1;1>2:0 1"},
		// Two ways of several coercions replace no coercion by each other.
		{"1 1 1 1;0>1:0;0>2:0;1>3:0;2>3:0", []bool{false, false, false, false}, "1 1 1 1;0>1:0;0>2:0;1>3:0;2>3:0"},
		// The way that replaces one goes by one that is replaced itself.
		{"1 1 1 1;0>3:0;0>1:0;1>3:0;1>2:0;2>3:0", []bool{true, false, true, false, false}, "1 1 1 1;0>1:0;1>2:0;2>3:0"},
		// Only some of the ways make the same; one that does is enough.
		{"2 2 2;0>1:0 1;0>1:1 0;1>2:0 1;0>2:1 0", []bool{false, false, false, true}, "2 2 2;0>1:0 1;0>1:1 0;1>2:0 1"},
		// The same in all values but one is not the same.
		{"4 4;0>1:0 1 2 3;0>1:0 1 2 2", []bool{false, false}, "4 4;0>1:0 1 2 3;0>1:0 1 2 2"},
		// Alike, but from or to another type.
		{"2 2 2;0>2:0 1;1>2:0 1;0>1:0 0", []bool{false, false, false}, "2 2 2;0>2:0 1;1>2:0 1;0>1:0 0"},
	} {
		types := typesOf(t, c.text)
		for i, want := range c.redundant {
			if impl.IsRedundant(types, i) != want {
				t.Errorf("%s: IsRedundant(%d) does not return %v", c.text, i, want)
			}
		}
		got, ok := impl.ReducedTypes(types)
		if text := impl.FormatTypes(got); !ok || text != c.reduced {
			t.Errorf("%s: ReducedTypes returns %q, %v, not %q", c.text, text, ok, c.reduced)
		}
		if again, _ := impl.ReducedTypes(got); impl.FormatTypes(again) != c.reduced {
			t.Errorf("%s: ReducedTypes of the reduced types returns %q", c.text, impl.FormatTypes(again))
		}
	}
}

// made returns what ways between two types make, each once and in order.
func made(types impl.Types, from int, to int) [][]int {
	var list [][]int
	found, _ := impl.WaysOf(types, from, to)
	for _, way := range found {
		images, _ := impl.WayMap(types, from, way)
		list = append(list, images)
	}
	slices.SortFunc(list, slices.Compare[[]int])
	return slices.CompactFunc(list, slices.Equal[[]int])
}

// TestReducedTypesMakeTheSame checks that coercions that are taken out were not needed, and that all that are left are.
func TestReducedTypesMakeTheSame(t *testing.T) {
	for _, text := range coherenceTexts {
		types := typesOf(t, text)
		reduced, _ := impl.ReducedTypes(types)
		if !slices.Equal(reduced.Sizes, types.Sizes) || impl.IsCoherent(reduced) != impl.IsCoherent(types) {
			t.Errorf("%s: ReducedTypes returns %v", text, reduced)
		}
		for from := range types.Sizes {
			for to := range types.Sizes {
				if !sameRows(made(types, from, to), made(reduced, from, to)) {
					t.Errorf("%s: ReducedTypes makes other values from %d to %d", text, from, to)
				}
			}
		}
		for i := range reduced.Coercions {
			if impl.IsRedundant(reduced, i) {
				t.Errorf("%s: the coercion %d is redundant after ReducedTypes", text, i)
			}
		}
	}
}

// checkNoValue checks what is said of arguments that are no types and value.
func checkNoValue(t *testing.T, types impl.Types, from int, to int, value int) {
	t.Helper()
	if got := impl.Coerce(types, from, to, value); got != -1 {
		t.Errorf("Coerce(%v, %d, %d, %d) returns %d", types, from, to, value, got)
	}
	if impl.AgreeAt(types, from, to, value) {
		t.Errorf("AgreeAt(%v, %d, %d, %d) returns true", types, from, to, value)
	}
}

func TestCoherenceOutOfRange(t *testing.T) {
	types := typesOf(t, "2 3 2;0>1:0 2;0>2:0 1;1>2:0 0 1")
	for _, none := range []int{-1, 3, 4, 5, 8, most, least} {
		for _, kind := range []int{0, 2, none} {
			for value := range 2 {
				checkNoValue(t, types, none, kind, value)
				checkNoValue(t, types, kind, none, value)
			}
			for _, pair := range [][2]int{{none, kind}, {kind, none}} {
				if got, ok := impl.ClosedMap(types, pair[0], pair[1]); ok || len(got) != 0 {
					t.Errorf("ClosedMap(%v) returns %v, %v", pair, got, ok)
				}
			}
		}
		if impl.IsRedundant(types, none) {
			t.Errorf("IsRedundant(%d) returns true", none)
		}
	}
	for _, value := range []int{-1, -2, 2, 3, 4, most, least} {
		for to := range 3 {
			checkNoValue(t, types, 0, to, value)
		}
		checkNoValue(t, types, 2, 0, value)
	}
	if impl.IsRedundant(typesOf(t, "1"), 0) {
		t.Error("IsRedundant(0) of no coercions returns true")
	}
}

func TestInvalidTypesAreNotCoherent(t *testing.T) {
	for name, types := range badTypes() {
		if impl.IsCoherent(types) {
			t.Errorf("%s: IsCoherent returns true", name)
		}
		if got, ok := impl.DoubtOf(types); ok || !sameDoubt(got, impl.Doubt{}) {
			t.Errorf("%s: DoubtOf returns %v, %v", name, got, ok)
		}
		if got, ok := impl.ReducedTypes(types); ok || !isZero(got) {
			t.Errorf("%s: ReducedTypes returns %v, %v", name, got, ok)
		}
		for from := -1; from < 4; from++ {
			for to := -1; to < 4; to++ {
				for value := -1; value < 4; value++ {
					checkNoValue(t, types, from, to, value)
				}
				if got, ok := impl.ClosedMap(types, from, to); ok || len(got) != 0 {
					t.Errorf("%s: ClosedMap(%d, %d) returns %v, %v", name, from, to, got, ok)
				}
			}
			if impl.IsRedundant(types, from) {
				t.Errorf("%s: IsRedundant(%d) returns true", name, from)
			}
		}
	}
	// A doubt of types that are not valid is none.
	two := impl.Types{Sizes: []int{1, 2}, Coercions: []impl.Coercion{link(0, 1, 0), link(0, 1, 1), link(1, 0, 0, 0)}}
	if got, ok := impl.DoubtOf(two); ok || !sameDoubt(got, impl.Doubt{}) {
		t.Errorf("DoubtOf(%v) returns %v, %v", two, got, ok)
	}
}

func TestCoherenceKeepsItsMemory(t *testing.T) {
	for _, text := range coherenceTexts {
		types := spareTypes(typesOf(t, text))
		last := len(types.Sizes) - 1
		arguments := typesCells(types)
		before := numbersAt(arguments)
		lists := [][]*int{arguments}
		for range 2 {
			doubt, _ := impl.DoubtOf(types)
			reduced, _ := impl.ReducedTypes(types)
			lists = append(lists, numberCells(doubt.First), numberCells(doubt.Second), typesCells(reduced))
			for from := range types.Sizes {
				closed, _ := impl.ClosedMap(types, from, last)
				lists = append(lists, numberCells(closed))
				impl.Coerce(types, from, last, 0)
				impl.AgreeAt(types, from, last, 0)
			}
			impl.IsCoherent(types)
			for i := range types.Coercions {
				impl.IsRedundant(types, i)
			}
		}
		checkApart(t, lists...)
		if after := numbersAt(arguments); !slices.Equal(before, after) {
			t.Errorf("%s: arguments were %v and are %v", text, before, after)
		}
	}
}

// TestCoherenceKeepsNoState asks the same of types between which others were asked about, and of types that have changed.
func TestCoherenceKeepsNoState(t *testing.T) {
	one, other := typesOf(t, "2 2;0>1:0 1;0>1:0 1"), typesOf(t, "2 2;0>1:0 1;0>1:0 0")
	for range 3 {
		if !impl.IsCoherent(one) || impl.IsCoherent(other) || !impl.IsRedundant(one, 1) || impl.IsRedundant(other, 1) {
			t.Fatal("an answer depends on another call")
		}
		if _, ok := impl.DoubtOf(one); ok || !impl.AgreeAt(one, 0, 1, 1) || impl.AgreeAt(other, 0, 1, 1) {
			t.Fatal("a doubt depends on another call")
		}
	}
	one.Coercions[0].Map[0] = 1
	if doubt, ok := impl.DoubtOf(one); !ok || doubt.Value != 0 || impl.Coerce(one, 0, 1, 0) != 1 {
		t.Fatalf("an answer is about types as they were: %v", doubt)
	}
}

// TestCoherenceTogether asks about the same types at the same time; it is for the race detector too.
func TestCoherenceTogether(t *testing.T) {
	types := typesOf(t, eight)
	want, doubted := impl.DoubtOf(types)
	reduced, _ := impl.ReducedTypes(types)
	done := make(chan bool)
	for range 8 {
		go func() {
			doubt, ok := impl.DoubtOf(types)
			again, _ := impl.ReducedTypes(types)
			done <- ok == doubted && sameDoubt(doubt, want) && impl.IsCoherent(types) != doubted && impl.FormatTypes(again) == impl.FormatTypes(reduced)
		}()
	}
	for range 8 {
		if !<-done {
			t.Error("answers differ")
		}
	}
}
