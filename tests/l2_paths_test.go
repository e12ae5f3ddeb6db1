package tests

import (
	"slices"
	"testing"

	"loop.example/overloads/impl"
)

// wayTexts are texts of types with ways of all sorts: none, one, several, short and long ones.
var wayTexts = []string{
	"2",
	"2 3 1",
	"2 2 2;0>1:0 1;0>2:0 1;1>2:0 0",
	"2 2 2;1>2:1 0;0>2:1 1;0>1:1 0",
	"3 3 3;0>1:1 2 0;0>1:0 0 1;1>2:2 0 1;1>2:1 1 2;0>2:0 1 2",
	"1 1 1 1 1;0>2:0;1>2:0;0>3:0;1>3:0;2>4:0;3>4:0",
	"1 1 1 1 1;1>4:0;0>4:0;2>3:0;1>2:0;0>2:0",
	"2 2 2 2 2;3>4:1 0;2>3:0 0;1>2:1 0;0>1:1 1;0>4:0 1;1>3:1 1;0>3:0 1;2>4:1 1",
	"2 2 2 2 2;0>1:0 1;0>1:1 0;1>2:0 1;1>2:1 1;2>3:0 1;2>3:1 0;3>4:0 0;3>4:0 1",
	"4 4 4 4 1;0>1:1 2 3 0;1>2:3 3 1 0;0>1:0 1 1 2;2>3:0 1 3 2;1>2:1 0 2 3;2>3:3 2 1 0;0>1:3 2 1 0;3>4:0 0 0 0",
	eight,
}

// isWayFrom tells by the definition whether a row of coercions is a way from a type, and the type to which it leads.
func isWayFrom(types impl.Types, from int, row []int) (int, bool) {
	for _, i := range row {
		if i < 0 || i >= len(types.Coercions) || types.Coercions[i].From != from {
			return 0, false
		}
		from = types.Coercions[i].To
	}
	return from, true
}

// shortRows returns all rows of coercions that are no longer than a way can be.
func shortRows(types impl.Types) [][]int {
	var list [][]int
	for length := range impl.MaxTypes {
		list = append(list, rows(length, 0, len(types.Coercions)-1)...)
	}
	return list
}

// waysAmong returns those of some rows that are ways from a type to another one, in the order of their first indices that differ.
func waysAmong(list [][]int, types impl.Types, from int, to int) [][]int {
	var ways [][]int
	for _, row := range list {
		if end, ok := isWayFrom(types, from, row); ok && end == to {
			ways = append(ways, row)
		}
	}
	slices.SortFunc(ways, slices.Compare[[]int])
	return ways
}

func sameRows(a [][]int, b [][]int) bool {
	return slices.EqualFunc(a, b, slices.Equal[[]int])
}

func checkWays(t *testing.T, types impl.Types, from int, to int, want [][]int) {
	t.Helper()
	text := impl.FormatTypes(types)
	if got, ok := impl.WaysOf(types, from, to); !ok || !sameRows(got, want) || len(got) >= impl.MaxWays {
		t.Fatalf("%s: WaysOf(%d, %d) returns %v, %v, not %v", text, from, to, got, ok, want)
	}
	if impl.CanCoerce(types, from, to) != (len(want) > 0) {
		t.Fatalf("%s: CanCoerce(%d, %d) is wrong", text, from, to)
	}
	var shortest []int
	for i, way := range want {
		if i == 0 || len(way) < len(shortest) {
			shortest = way
		}
	}
	if got, ok := impl.ShortestWay(types, from, to); ok != (len(want) > 0) || !slices.Equal(got, shortest) {
		t.Fatalf("%s: ShortestWay(%d, %d) returns %v, %v, not %v", text, from, to, got, ok, shortest)
	}
}

// checkAbove compares AboveOf and JoinsOf with whether ways lead from each type to each other one.
func checkAbove(t *testing.T, types impl.Types, leads [][]bool) {
	t.Helper()
	text := impl.FormatTypes(types)
	for a := range leads {
		var above []int
		for to, ok := range leads[a] {
			if ok {
				above = append(above, to)
			}
		}
		if got := impl.AboveOf(types, a); !slices.Equal(got, above) {
			t.Fatalf("%s: AboveOf(%d) returns %v, not %v", text, a, got, above)
		}
		for b := range leads {
			var joins []int
			for to := range leads {
				least := leads[a][to] && leads[b][to]
				for other := range leads {
					least = least && (other == to || !leads[a][other] || !leads[b][other] || !leads[other][to])
				}
				if least {
					joins = append(joins, to)
				}
			}
			if got := impl.JoinsOf(types, a, b); !slices.Equal(got, joins) {
				t.Fatalf("%s: JoinsOf(%d, %d) returns %v, not %v", text, a, b, got, joins)
			}
		}
	}
}

// checkAllWays compares all ways in types, and what is above what, with the rows that are ways by the definition.
func checkAllWays(t *testing.T, types impl.Types) {
	t.Helper()
	list := shortRows(types)
	leads := make([][]bool, len(types.Sizes))
	for from := range types.Sizes {
		for to := range types.Sizes {
			want := waysAmong(list, types, from, to)
			checkWays(t, types, from, to, want)
			leads[from] = append(leads[from], len(want) > 0)
		}
	}
	checkAbove(t, types, leads)
}

func TestWaysOfGivenTypes(t *testing.T) {
	for _, text := range wayTexts {
		checkAllWays(t, typesOf(t, text))
	}
}

// TestWaysOfAllTypes goes through all rows of at most three coercions between five types, and every seventh one of four.
func TestWaysOfAllTypes(t *testing.T) {
	var links []impl.Coercion
	for from := range impl.MaxTypes {
		for to := from + 1; to < impl.MaxTypes; to++ {
			links = append(links, link(from, to, 0))
		}
	}
	for length := range 5 {
		for n, row := range rows(length, 0, len(links)-1) {
			if length > 3 && n%7 != 0 {
				continue
			}
			types := impl.Types{Sizes: []int{1, 1, 1, 1, 1}}
			for _, i := range row {
				types.Coercions = append(types.Coercions, links[i])
			}
			checkAllWays(t, types)
		}
	}
}

func TestWayToItself(t *testing.T) {
	for _, text := range wayTexts {
		types := typesOf(t, text)
		for kind, size := range types.Sizes {
			if ways, ok := impl.WaysOf(types, kind, kind); !ok || len(ways) != 1 || len(ways[0]) != 0 {
				t.Errorf("%s: WaysOf(%d, %d) returns %v, %v", text, kind, kind, ways, ok)
			}
			if way, ok := impl.ShortestWay(types, kind, kind); !ok || len(way) != 0 {
				t.Errorf("%s: ShortestWay(%d, %d) returns %v, %v", text, kind, kind, way, ok)
			}
			if !impl.CanCoerce(types, kind, kind) || !slices.Equal(impl.JoinsOf(types, kind, kind), []int{kind}) || !slices.Contains(impl.AboveOf(types, kind), kind) {
				t.Errorf("%s: no way from %d to itself", text, kind)
			}
			for value := range size {
				if impl.GoWay(types, kind, nil, value) != value || impl.GoWay(types, kind, []int{}, value) != value {
					t.Errorf("%s: the way of no coercions changes %d of %d", text, value, kind)
				}
			}
			if images, ok := impl.WayMap(types, kind, nil); !ok || !slices.Equal(images, []int{0, 1, 2, 3}[:size]) {
				t.Errorf("%s: WayMap of no coercions from %d returns %v, %v", text, kind, images, ok)
			}
		}
	}
}

func TestSeveralWays(t *testing.T) {
	types := typesOf(t, "2 2 2;0>1:0 1;0>2:0 1;1>2:0 0")
	if ways, ok := impl.WaysOf(types, 0, 2); !ok || !sameRows(ways, [][]int{{0, 2}, {1}}) {
		t.Errorf("WaysOf returns %v, %v", ways, ok)
	}
	if impl.GoWay(types, 0, []int{0, 2}, 1) != 0 || impl.GoWay(types, 0, []int{1}, 1) != 1 {
		t.Error("the two ways do not make 0 and 1 of 1")
	}
	if way, ok := impl.ShortestWay(types, 0, 2); !ok || !slices.Equal(way, []int{1}) {
		t.Errorf("ShortestWay returns %v, %v", way, ok)
	}
	// The order is that of the indices, not of the lengths nor of the types between.
	types = typesOf(t, "1 1 1 1;2>3:0;0>2:0;0>3:0;1>3:0;0>1:0;0>2:0")
	if ways, ok := impl.WaysOf(types, 0, 3); !ok || !sameRows(ways, [][]int{{1, 0}, {2}, {4, 3}, {5, 0}}) {
		t.Errorf("WaysOf returns %v, %v", ways, ok)
	}
	// Of several shortest ways, the first one counts, though a longer one stands before it.
	types = typesOf(t, "1 1 1 1;0>1:0;1>2:0;2>3:0;1>3:0;0>2:0;1>3:0")
	if way, ok := impl.ShortestWay(types, 0, 3); !ok || !slices.Equal(way, []int{0, 3}) {
		t.Errorf("ShortestWay returns %v, %v", way, ok)
	}
	types = typesOf(t, "1 1 1 1;0>1:0;0>1:0;0>1:0;1>2:0;1>2:0;1>2:0;2>3:0;2>3:0")
	if ways, _ := impl.WaysOf(types, 0, 3); len(ways) != 18 || !slices.Equal(ways[0], []int{0, 3, 6}) || !slices.Equal(ways[17], []int{2, 5, 7}) {
		t.Errorf("WaysOf returns %v", ways)
	}
}

func TestNoWay(t *testing.T) {
	types := typesOf(t, "2 2 2;0>1:0 1;0>2:0 1")
	for _, pair := range [][2]int{{1, 0}, {2, 0}, {1, 2}, {2, 1}} {
		if ways, ok := impl.WaysOf(types, pair[0], pair[1]); !ok || len(ways) != 0 {
			t.Errorf("WaysOf(%v) returns %v, %v", pair, ways, ok)
		}
		if way, ok := impl.ShortestWay(types, pair[0], pair[1]); ok || len(way) != 0 || impl.CanCoerce(types, pair[0], pair[1]) {
			t.Errorf("ShortestWay(%v) returns %v, %v", pair, way, ok)
		}
	}
	if joins := impl.JoinsOf(types, 1, 2); len(joins) != 0 {
		t.Errorf("JoinsOf(1, 2) returns %v", joins)
	}
}

func TestJoins(t *testing.T) {
	for _, c := range []struct {
		text  string
		a, b  int
		joins []int
	}{
		{"1 1 1 1 1;0>2:0;1>2:0;0>3:0;1>3:0;2>4:0;3>4:0", 0, 1, []int{2, 3}},
		{"1 1 1 1 1;0>2:0;1>2:0;0>3:0;1>3:0;2>4:0;3>4:0", 1, 0, []int{2, 3}},
		{"1 1 1 1 1;0>2:0;1>2:0;0>3:0;1>3:0;2>4:0;3>4:0", 2, 3, []int{4}},
		{"1 1 1 1 1;0>2:0;1>2:0;0>3:0;1>3:0;2>4:0;3>4:0", 0, 3, []int{3}},
		{"1 1 1 1 1;0>2:0;1>2:0;0>3:0;1>3:0;2>3:0;3>4:0", 0, 1, []int{2}},
		{"1 1 1 1 1;0>2:0;1>2:0;0>3:0;1>3:0;0>4:0;1>4:0", 0, 1, []int{2, 3, 4}},
		{"1 1 1 1 1;0>2:0;1>2:0;0>3:0;1>3:0;0>4:0;1>4:0;2>4:0", 0, 1, []int{2, 3}},
		{"1 1 1 1 1;0>2:0;1>2:0;0>3:0;1>4:0;2>3:0;3>4:0", 0, 1, []int{2}},
		{"1 1 1 1 1;0>2:0;1>2:0;2>3:0;0>4:0;1>4:0", 0, 1, []int{2, 4}},
		{"1 1 1 1 1;0>2:0;1>2:0;0>3:0;1>3:0;2>3:0;0>4:0;1>4:0", 0, 1, []int{2, 4}},
		{"1 1 1;0>1:0;1>2:0;0>2:0", 0, 1, []int{1}},
		{"1 1 1;0>1:0", 1, 2, nil},
	} {
		if got := impl.JoinsOf(typesOf(t, c.text), c.a, c.b); !slices.Equal(got, c.joins) {
			t.Errorf("%s: JoinsOf(%d, %d) returns %v, not %v", c.text, c.a, c.b, got, c.joins)
		}
	}
}

// checkRow compares GoWay and WayMap of a row of coercions with whether it is a way and with what their Maps say.
func checkRow(t *testing.T, types impl.Types, from int, row []int) {
	t.Helper()
	text := impl.FormatTypes(types)
	_, ok := isWayFrom(types, from, row)
	ok = ok && 0 <= from && from < len(types.Sizes)
	var want []int
	for value := -2; value < impl.MaxValues+2; value++ {
		image := -1
		if ok && 0 <= value && value < types.Sizes[from] {
			image = value
			for _, i := range row {
				image = types.Coercions[i].Map[image]
			}
			want = append(want, image)
		}
		if got := impl.GoWay(types, from, row, value); got != image {
			t.Fatalf("%s: GoWay(%d, %v, %d) returns %d, not %d", text, from, row, value, got, image)
		}
	}
	for _, far := range []int{most, least} {
		if impl.GoWay(types, from, row, far) != -1 {
			t.Fatalf("%s: GoWay(%d, %v, %d) does not return -1", text, from, row, far)
		}
	}
	if got, have := impl.WayMap(types, from, row); have != ok || !slices.Equal(got, want) {
		t.Fatalf("%s: WayMap(%d, %v) returns %v, %v, not %v", text, from, row, got, have, want)
	}
}

// TestRowsOfCoercions tries all short rows of indices, of coercions and of none, from all types and from none.
func TestRowsOfCoercions(t *testing.T) {
	for _, text := range wayTexts {
		types := typesOf(t, text)
		list := shortRows(types)
		for length := 1; length < 4; length++ {
			list = append(list, rows(length, -1, len(types.Coercions))...)
		}
		for _, row := range list {
			for from := -1; from <= len(types.Sizes); from++ {
				checkRow(t, types, from, row)
			}
		}
	}
}

func TestRowsThatAreNoWay(t *testing.T) {
	types := typesOf(t, "2 3 2;0>1:0 2;1>2:0 1 1;0>2:1 0")
	for _, row := range [][]int{
		{-1}, {3}, {most}, {least}, {0, -1}, {0, 3}, {0, most}, {1}, {1, 0}, {0, 0}, {0, 2}, {2, 1}, {0, 1, 1}, {0, 1, 2}, {2, 2},
		make([]int, 100000), slices.Repeat([]int{0, 1}, 50000),
	} {
		if got := impl.GoWay(types, 0, row, 0); got != -1 {
			t.Errorf("GoWay(0, %.10v, 0) returns %d", row, got)
		}
		if got, ok := impl.WayMap(types, 0, row); ok || len(got) != 0 {
			t.Errorf("WayMap(0, %.10v) returns %v, %v", row, got, ok)
		}
	}
}

func TestNumbersThatAreNoType(t *testing.T) {
	types := typesOf(t, "2 2 2;0>1:0 1;0>2:0 1;1>2:0 0")
	for _, none := range []int{-1, 3, 4, most, least} {
		for _, kind := range []int{0, 2, none} {
			checkNothing(t, types, none, kind)
			checkNothing(t, types, kind, none)
		}
		if got := impl.AboveOf(types, none); len(got) != 0 {
			t.Errorf("AboveOf(%d) returns %v", none, got)
		}
		for _, row := range [][]int{nil, {0}, {none}} {
			checkRow(t, types, none, row)
		}
	}
}

// checkNothing checks what is said of two numbers that are not both types, or of types that are not valid.
func checkNothing(t *testing.T, types impl.Types, from int, to int) {
	t.Helper()
	if got, ok := impl.WaysOf(types, from, to); ok || len(got) != 0 {
		t.Errorf("WaysOf(%v, %d, %d) returns %v, %v", types, from, to, got, ok)
	}
	if impl.CanCoerce(types, from, to) {
		t.Errorf("CanCoerce(%v, %d, %d) returns true", types, from, to)
	}
	if got, ok := impl.ShortestWay(types, from, to); ok || len(got) != 0 {
		t.Errorf("ShortestWay(%v, %d, %d) returns %v, %v", types, from, to, got, ok)
	}
	if got := impl.JoinsOf(types, from, to); len(got) != 0 {
		t.Errorf("JoinsOf(%v, %d, %d) returns %v", types, from, to, got)
	}
}

func TestInvalidTypesHaveNoWays(t *testing.T) {
	for name, types := range badTypes() {
		for from := -1; from < 4; from++ {
			for to := -1; to < 4; to++ {
				checkNothing(t, types, from, to)
			}
			if got := impl.AboveOf(types, from); len(got) != 0 {
				t.Errorf("%s: AboveOf(%d) returns %v", name, from, got)
			}
			for _, row := range [][]int{nil, {0}, {0, 1}} {
				if got := impl.GoWay(types, from, row, 0); got != -1 {
					t.Errorf("%s: GoWay(%d, %v, 0) returns %d", name, from, row, got)
				}
				if got, ok := impl.WayMap(types, from, row); ok || len(got) != 0 {
					t.Errorf("%s: WayMap(%d, %v) returns %v, %v", name, from, row, got, ok)
				}
			}
		}
	}
}

func TestWaysKeepTheirMemory(t *testing.T) {
	for _, text := range wayTexts {
		types := spareTypes(typesOf(t, text))
		last := len(types.Sizes) - 1
		way, _ := impl.ShortestWay(types, 0, last)
		way = spare(way...)
		arguments := append(typesCells(types), numberCells(way)...)
		before := numbersAt(arguments)
		lists := [][]*int{arguments}
		for range 2 {
			ways, _ := impl.WaysOf(types, 0, last)
			for _, one := range ways {
				lists = append(lists, numberCells(one))
			}
			shortest, _ := impl.ShortestWay(types, 0, last)
			images, _ := impl.WayMap(types, 0, way)
			same, _ := impl.WayMap(types, 0, way[:0])
			lists = append(lists, numberCells(shortest), numberCells(images), numberCells(same))
			lists = append(lists, numberCells(impl.AboveOf(types, 0)), numberCells(impl.JoinsOf(types, 0, last)))
			impl.CanCoerce(types, 0, last)
			impl.GoWay(types, 0, way, 0)
		}
		checkApart(t, lists...)
		if after := numbersAt(arguments); !slices.Equal(before, after) {
			t.Errorf("%s: arguments were %v and are %v", text, before, after)
		}
	}
}

// TestListsOfWaysAreApart overwrites one list of ways, unused capacity included, and looks at another one.
func TestListsOfWaysAreApart(t *testing.T) {
	types := typesOf(t, "2 2 2;0>1:0 1;0>2:0 1;1>2:0 0")
	first, _ := impl.WaysOf(types, 0, 2)
	second, _ := impl.WaysOf(types, 0, 2)
	first = first[:cap(first)]
	for i := range first {
		first[i] = []int{-7}
	}
	if !sameRows(second, [][]int{{0, 2}, {1}}) {
		t.Errorf("the second list has become %v", second)
	}
}

// TestWaysKeepNoState asks the same of types between which others were asked about, and of types that have changed.
func TestWaysKeepNoState(t *testing.T) {
	one, other := typesOf(t, "2 2 2;0>1:0 1;1>2:1 0"), typesOf(t, "2 2 2;0>2:1 1;0>2:0 0")
	for range 3 {
		if impl.GoWay(one, 0, []int{0, 1}, 0) != 1 || impl.GoWay(other, 0, []int{1}, 0) != 0 || impl.GoWay(other, 0, []int{0, 1}, 0) != -1 {
			t.Fatal("a value depends on another call")
		}
		if len(impl.AboveOf(one, 0)) != 3 || len(impl.AboveOf(other, 0)) != 2 {
			t.Fatal("what is above depends on another call")
		}
	}
	one.Coercions[1].From, one.Coercions[1].Map[0] = 0, 0
	if ways, _ := impl.WaysOf(one, 0, 2); !sameRows(ways, [][]int{{1}}) || impl.GoWay(one, 0, []int{1}, 0) != 0 {
		t.Fatalf("an answer is about types as they were: %v", ways)
	}
}

// TestWaysTogether asks about the same types at the same time; it is for the race detector too.
func TestWaysTogether(t *testing.T) {
	types := typesOf(t, eight)
	want, _ := impl.WaysOf(types, 0, 4)
	done := make(chan bool)
	for range 8 {
		go func() {
			ways, ok := impl.WaysOf(types, 0, 4)
			way, _ := impl.ShortestWay(types, 0, 4)
			done <- ok && sameRows(ways, want) && slices.Equal(way, []int{3}) && impl.GoWay(types, 0, way, 0) == 3
		}()
	}
	for range 8 {
		if !<-done {
			t.Error("answers differ")
		}
	}
}
