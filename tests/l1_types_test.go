package tests

import (
	"regexp"
	"slices"
	"strconv"
	"strings"
	"testing"

	"loop.example/overloads/impl"
)

// eight is the text of as many types and coercions as there may be, with several coercions between two types.
const eight = "4 3 2 1 4;0>1:0 1 2 2;0>1:2 1 0 0;3>4:3;0>4:3 2 1 0;1>2:0 1 0;2>3:0 0;0>3:0 0 0 0;1>4:1 2 3"

// goodTexts are texts of valid types.
var goodTexts = []string{
	"1",
	"4",
	"4 4 4 4 4",
	"1 1 1 1 1",
	"2 3;0>1:0 2",
	"1 1;0>1:0;0>1:0",
	"1 4;0>1:3",
	"4 1;0>1:0 0 0 0",
	"2 2 2;1>2:0 0;0>2:0 1;0>1:0 1",
	eight,
}

// badTypes are types that are not valid, each for one reason.
func badTypes() map[string]impl.Types {
	nine := make([]impl.Coercion, 9)
	for i := range nine {
		nine[i] = link(0, 1, 0)
	}
	with := func(coercions ...impl.Coercion) impl.Types {
		return impl.Types{Sizes: []int{2, 3}, Coercions: coercions}
	}
	return map[string]impl.Types{
		"no types":            {},
		"coercions alone":     {Coercions: []impl.Coercion{link(0, 1, 0)}},
		"six types":           {Sizes: []int{1, 1, 1, 1, 1, 1}},
		"no values":           {Sizes: []int{0}},
		"no values later":     {Sizes: []int{2, 0}},
		"five values":         {Sizes: []int{5}},
		"five values later":   {Sizes: []int{1, 1, 5}},
		"negative size":       {Sizes: []int{-1}},
		"huge size":           {Sizes: []int{1, most}},
		"nine coercions":      {Sizes: []int{1, 1}, Coercions: nine},
		"to an earlier type":  with(link(1, 0, 0, 0, 0)),
		"to the same type":    with(link(0, 0, 0, 1)),
		"to the same, last":   with(link(1, 1, 0, 1, 2)),
		"to no type":          with(link(0, 2, 0, 0)),
		"to no type, huge":    with(link(0, most, 0, 0)),
		"from no type":        with(link(2, 3, 0, 0)),
		"from a negative one": with(link(-1, 1, 0, 0)),
		"from the least one":  with(link(least, 1)),
		"from and to none":    with(link(-2, -1)),
		"short map":           with(link(0, 1, 0)),
		"no map":              with(link(0, 1)),
		"long map":            with(link(0, 1, 0, 1, 2)),
		"value past the end":  with(link(0, 1, 0, 3)),
		"negative value":      with(link(0, 1, -1, 0)),
		"second one wrong":    with(link(0, 1, 0, 2), link(0, 1, 0, 3)),
		"value of from alone": {Sizes: []int{3, 1}, Coercions: []impl.Coercion{link(0, 1, 0, 0, 1)}},
	}
}

func TestTypesValid(t *testing.T) {
	for _, types := range []impl.Types{
		{Sizes: []int{1}},
		{Sizes: []int{4, 4, 4, 4, 4}, Coercions: []impl.Coercion{}},
		{Sizes: []int{2, 3}, Coercions: []impl.Coercion{link(0, 1, 0, 2)}},
		{Sizes: []int{1, 1}, Coercions: []impl.Coercion{link(0, 1, 0), link(0, 1, 0)}},
		{Sizes: []int{1, 2, 4}, Coercions: []impl.Coercion{link(1, 2, 3, 3), link(0, 2, 3), link(0, 1, 1)}},
	} {
		if !impl.TypesValid(types) {
			t.Errorf("TypesValid(%v) returns false", types)
		}
	}
	for name, types := range badTypes() {
		if impl.TypesValid(types) {
			t.Errorf("%s: TypesValid returns true", name)
		}
	}
}

func TestInvalidTypesHaveNothing(t *testing.T) {
	for name, types := range badTypes() {
		for kind := -1; kind < 3; kind++ {
			for value := -1; value < 3; value++ {
				if impl.HasValue(types, kind, value) {
					t.Errorf("%s: HasValue(%d, %d) returns true", name, kind, value)
				}
				if got := impl.ApplyCoercion(types, kind, value); got != -1 {
					t.Errorf("%s: ApplyCoercion(%d, %d) returns %d", name, kind, value, got)
				}
			}
			if impl.IsInjective(types, kind) {
				t.Errorf("%s: IsInjective(%d) returns true", name, kind)
			}
			if got := impl.CoercionsFrom(types, kind); len(got) != 0 {
				t.Errorf("%s: CoercionsFrom(%d) returns %v", name, kind, got)
			}
			if got, ok := impl.WithoutCoercion(types, kind); ok || !isZero(got) {
				t.Errorf("%s: WithoutCoercion(%d) returns %v, %v", name, kind, got, ok)
			}
		}
		if got := impl.FormatTypes(types); got != "" {
			t.Errorf("%s: FormatTypes returns %q", name, got)
		}
		if got, ok := impl.WithCoercion(types, link(0, 1, 0, 0)); ok || !isZero(got) {
			t.Errorf("%s: WithCoercion returns %v, %v", name, got, ok)
		}
	}
}

func TestHasValue(t *testing.T) {
	types := typesOf(t, "2 1 4")
	sizes := []int{2, 1, 4}
	for kind := -2; kind < 6; kind++ {
		for value := -2; value < 6; value++ {
			want := 0 <= kind && kind < 3 && 0 <= value && value < sizes[kind]
			if impl.HasValue(types, kind, value) != want {
				t.Errorf("HasValue(%d, %d) does not return %v", kind, value, want)
			}
		}
	}
	for _, far := range []int{most, least} {
		if impl.HasValue(types, far, 0) || impl.HasValue(types, 0, far) {
			t.Errorf("HasValue of %d returns true", far)
		}
	}
}

func TestApplyCoercion(t *testing.T) {
	types := typesOf(t, "2 3 1;0>1:0 2;0>1:2 1;1>2:0 0 0;0>2:0 0")
	maps := [][]int{{0, 2}, {2, 1}, {0, 0, 0}, {0, 0}}
	for i := -2; i < 7; i++ {
		for value := -2; value < 7; value++ {
			want := -1
			if 0 <= i && i < len(maps) && 0 <= value && value < len(maps[i]) {
				want = maps[i][value]
			}
			if got := impl.ApplyCoercion(types, i, value); got != want {
				t.Errorf("ApplyCoercion(%d, %d) returns %d, not %d", i, value, got, want)
			}
		}
	}
	for _, far := range []int{most, least} {
		if impl.ApplyCoercion(types, far, 0) != -1 || impl.ApplyCoercion(types, 0, far) != -1 {
			t.Errorf("ApplyCoercion of %d does not return -1", far)
		}
	}
}

func TestIsInjective(t *testing.T) {
	types := typesOf(t, "3 4 1 2;0>1:3 0 1;0>1:3 0 3;1>3:0 1 1 0;2>3:1;0>1:2 2 1;0>1:0 2 2")
	for i, want := range []bool{true, false, false, true, false, false, false} {
		if impl.IsInjective(types, i) != want {
			t.Errorf("IsInjective(%d) does not return %v", i, want)
		}
	}
	for _, i := range []int{-1, most, least} {
		if impl.IsInjective(types, i) {
			t.Errorf("IsInjective(%d) returns true", i)
		}
	}
}

func TestCoercionsFrom(t *testing.T) {
	types := typesOf(t, eight)
	for kind, want := range [][]int{{0, 1, 3, 6}, {4, 7}, {5}, {2}, {}, {}} {
		if got := impl.CoercionsFrom(types, kind); !slices.Equal(got, want) {
			t.Errorf("CoercionsFrom(%d) returns %v, not %v", kind, got, want)
		}
	}
	for _, kind := range []int{-1, most, least} {
		if got := impl.CoercionsFrom(types, kind); len(got) != 0 {
			t.Errorf("CoercionsFrom(%d) returns %v", kind, got)
		}
	}
}

func TestWithCoercion(t *testing.T) {
	types := typesOf(t, "2 3;0>1:0 2")
	for want, c := range map[string]impl.Coercion{
		"2 3;0>1:0 2;0>1:1 1": link(0, 1, 1, 1),
		"2 3;0>1:0 2;0>1:0 2": link(0, 1, 0, 2),
	} {
		got, ok := impl.WithCoercion(types, c)
		if text := impl.FormatTypes(got); !ok || text != want {
			t.Errorf("WithCoercion(%v) returns %q, %v", c, text, ok)
		}
	}
	for _, c := range []impl.Coercion{
		{}, link(1, 0, 0, 0, 0), link(0, 0, 0, 1), link(0, 2, 0, 0), link(-1, 1, 0), link(0, 1), link(0, 1, 0), link(0, 1, 0, 1, 2), link(0, 1, 0, 3), link(0, 1, -1, 0), link(0, most, 0, 0), link(least, 1, 0, 0),
	} {
		if got, ok := impl.WithCoercion(types, c); ok || !isZero(got) {
			t.Errorf("WithCoercion(%v) returns %v, %v", c, got, ok)
		}
	}
}

func TestWithCoercionUpToEight(t *testing.T) {
	types := typesOf(t, "1 1")
	want := "1 1"
	for i := range 9 {
		more, ok := impl.WithCoercion(types, link(0, 1, 0))
		if i == 8 {
			if ok || !isZero(more) {
				t.Errorf("a ninth coercion: %v, %v", more, ok)
			}
			break
		}
		want += ";0>1:0"
		if !ok || impl.FormatTypes(more) != want {
			t.Fatalf("coercion %d: %v, %v", i, more, ok)
		}
		types = more
	}
}

func TestWithoutCoercion(t *testing.T) {
	types := typesOf(t, eight)
	parts := strings.Split(eight, ";")
	for i := range types.Coercions {
		got, ok := impl.WithoutCoercion(types, i)
		want := strings.Join(slices.Concat(parts[:i+1], parts[i+2:]), ";")
		if text := impl.FormatTypes(got); !ok || text != want {
			t.Errorf("WithoutCoercion(%d) returns %q, %v, not %q", i, text, ok, want)
		}
	}
	if got, ok := impl.WithoutCoercion(typesOf(t, "1 1;0>1:0"), 0); !ok || impl.FormatTypes(got) != "1 1" {
		t.Errorf("without the only coercion: %v, %v", got, ok)
	}
	for _, i := range []int{-1, 8, most, least} {
		if got, ok := impl.WithoutCoercion(types, i); ok || !isZero(got) {
			t.Errorf("WithoutCoercion(%d) returns %v, %v", i, got, ok)
		}
	}
	if got, ok := impl.WithoutCoercion(typesOf(t, "2 2"), 0); ok || !isZero(got) {
		t.Errorf("without a coercion of none: %v, %v", got, ok)
	}
	nine := impl.Types{Sizes: []int{1, 1}, Coercions: slices.Repeat([]impl.Coercion{link(0, 1, 0)}, 9)}
	if got, ok := impl.WithoutCoercion(nine, 8); ok || !isZero(got) {
		t.Errorf("without the ninth coercion: %v, %v", got, ok)
	}
}

func TestTypesHaveTheirText(t *testing.T) {
	types := impl.Types{Sizes: []int{2, 3, 1}, Coercions: []impl.Coercion{link(1, 2, 0, 0, 0), link(0, 1, 0, 2), link(0, 1, 1, 1)}}
	const want = "2 3 1;1>2:0 0 0;0>1:0 2;0>1:1 1"
	if got := impl.FormatTypes(types); got != want {
		t.Errorf("FormatTypes returns %q, not %q", got, want)
	}
	got := typesOf(t, want)
	if !slices.Equal(got.Sizes, types.Sizes) || len(got.Coercions) != 3 {
		t.Fatalf("ParseTypes returns %v", got)
	}
	for i, c := range got.Coercions {
		d := types.Coercions[i]
		if c.From != d.From || c.To != d.To || !slices.Equal(c.Map, d.Map) {
			t.Errorf("ParseTypes: coercion %d is %v, not %v", i, c, d)
		}
	}
	for _, text := range goodTexts {
		if back := impl.FormatTypes(typesOf(t, text)); back != text {
			t.Errorf("FormatTypes of ParseTypes(%q) returns %q", text, back)
		}
	}
}

func TestParseTypesRefuses(t *testing.T) {
	for _, text := range []string{
		"", " ", "0", "5", "02", "+2", "-2", "10", "2x", "x", "1 1 1 1 1 1", "2  3", " 2 3", "2 3 ", "2,3", "2\t3", "2 3\n", "2 3\x00", "\xff", "٢ 3",
		";", "2 3;", ";0>1:0 2", "2 3;0", "2 3;0>", "2 3;0>1", "2 3;0>1:", "2 3;0>1:0", "2 3;0>1:0 ", "2 3;0>1:0 2 ", "2 3;0>1:0 2;", "2 3;0>1:0 2 0", "2 3;;0>1:0 2",
		"2 3;0>1:0 3", "2 3;0>1:0 02", "2 3;0>1:-1 0", "2 3;0>1: 0 2", "2 3; 0>1:0 2", "2 3 ;0>1:0 2", "2 3;0 >1:0 2", "2 3;00>1:0 2", "2 3;0>01:0 2", "2 3;0>1:0  2", "2 3;0<1:0 2", "2 3;0>1;0 2", "2 3;-1>1:0 2",
		"2 3;1>0:0 0 0", "2 3;0>0:0 1", "2 3;1>1:0 1 2", "2 3;0>2:0 0", "2 3;2>3:0 0", "2 3;0>11:0 2", "18446744073709551618 3",
		"1 1" + strings.Repeat(";0>1:0", 9),
		strings.Repeat("1 ", 100000) + "1",
		"1 1;0>1:" + strings.Repeat("0 ", 100000) + "0",
	} {
		if got, ok := impl.ParseTypes(text); ok || !isZero(got) {
			t.Errorf("ParseTypes(%.40q) returns %v, %v", text, got, ok)
		}
	}
}

var typesForm = regexp.MustCompile(`^[1-4]( [1-4]){0,4}(;[0-4]>[0-4]:[0-3]( [0-3]){0,3}){0,8}$`)

// isTypesText tells by the form alone whether a text is one of valid types.
func isTypesText(text string) bool {
	if !typesForm.MatchString(text) {
		return false
	}
	parts := strings.Split(text, ";")
	sizes := strings.Split(parts[0], " ")
	for _, part := range parts[1:] {
		from, to := int(part[0]-'0'), int(part[2]-'0')
		images := strings.Split(part[4:], " ")
		if from >= to || to >= len(sizes) || strconv.Itoa(len(images)) != sizes[from] {
			return false
		}
		if slices.ContainsFunc(images, func(image string) bool { return image >= sizes[to] }) {
			return false
		}
	}
	return true
}

// checkText compares ParseTypes of a text with what the form of the text tells.
func checkText(t *testing.T, text string) {
	t.Helper()
	types, ok := impl.ParseTypes(text)
	if ok != isTypesText(text) {
		t.Fatalf("ParseTypes(%q) returns %v", text, ok)
	}
	if back := impl.FormatTypes(types); ok && back != text || !ok && !isZero(types) {
		t.Fatalf("ParseTypes(%q) returns %v, of the text %q", text, types, back)
	}
}

// TestParseTypesOfEdits tries all texts that are nearly good ones.
func TestParseTypesOfEdits(t *testing.T) {
	for _, text := range goodTexts {
		for edit := range edits(text) {
			checkText(t, edit)
		}
	}
}

// TestCoercionsMakeValuesOfLaterTypes goes through all coercions between two types, and those that are nearly so.
func TestCoercionsMakeValuesOfLaterTypes(t *testing.T) {
	for first := 1; first <= impl.MaxValues; first++ {
		for second := 1; second <= impl.MaxValues; second++ {
			plain := impl.Types{Sizes: []int{first, second}}
			for _, images := range rows(first, -1, second) {
				checkOneCoercion(t, plain, images)
			}
		}
	}
}

// rows returns all rows of a length of numbers from one up to another one.
func rows(length int, low int, high int) [][]int {
	list := [][]int{{}}
	for range length {
		var longer [][]int
		for _, row := range list {
			for number := low; number <= high; number++ {
				longer = append(longer, append(slices.Clone(row), number))
			}
		}
		list = longer
	}
	return list
}

func checkOneCoercion(t *testing.T, plain impl.Types, images []int) {
	t.Helper()
	want := slices.Min(images) >= 0 && slices.Max(images) < plain.Sizes[1]
	types, ok := impl.WithCoercion(plain, link(0, 1, images...))
	if ok != want || impl.TypesValid(types) != want {
		t.Fatalf("WithCoercion(%v, %v) returns %v", plain, images, ok)
	}
	if !ok {
		return
	}
	different := map[int]bool{}
	for value, image := range images {
		if got := impl.ApplyCoercion(types, 0, value); got != image || !impl.HasValue(types, 1, got) {
			t.Fatalf("%v: ApplyCoercion of %d returns %d", types, value, got)
		}
		different[image] = true
	}
	if impl.ApplyCoercion(types, 0, len(images)) != -1 {
		t.Fatalf("%v: ApplyCoercion of no value", types)
	}
	if impl.IsInjective(types, 0) != (len(different) == len(images)) {
		t.Fatalf("%v: IsInjective", types)
	}
	checkText(t, impl.FormatTypes(types))
	if back, ok := impl.WithoutCoercion(types, 0); !ok || impl.FormatTypes(back) != impl.FormatTypes(plain) {
		t.Fatalf("%v: WithoutCoercion returns %v, %v", types, back, ok)
	}
}

func TestTypesKeepTheirMemory(t *testing.T) {
	for _, text := range []string{"2 3;0>1:0 2", "2 3", "4 3 2;0>1:0 1 2 2;0>1:2 1 0 0;1>2:0 1 0;0>2:1 1 1 1"} {
		types := spareTypes(typesOf(t, text))
		added := link(0, 1, spare(make([]int, types.Sizes[0])...)...)
		arguments := append(typesCells(types), numberCells(added.Map)...)
		before := numbersAt(arguments)
		first, ok := impl.WithCoercion(types, added)
		again, _ := impl.WithCoercion(types, added)
		if !ok {
			t.Fatalf("%s: WithCoercion returns false", text)
		}
		lists := [][]*int{arguments, typesCells(first), typesCells(again)}
		for i := range types.Coercions {
			fewer, _ := impl.WithoutCoercion(types, i)
			lists = append(lists, typesCells(fewer))
		}
		for range 2 {
			parsed, _ := impl.ParseTypes(impl.FormatTypes(types))
			lists = append(lists, typesCells(parsed), numberCells(impl.CoercionsFrom(types, 0)))
		}
		impl.WithCoercion(types, link(1, 0))
		impl.WithoutCoercion(types, len(types.Coercions))
		for i := range 4 {
			impl.HasValue(types, i, 0)
			impl.ApplyCoercion(types, i, 1)
			impl.IsInjective(types, i)
		}
		checkApart(t, lists...)
		if after := numbersAt(arguments); !slices.Equal(before, after) {
			t.Errorf("%s: arguments were %v and are %v", text, before, after)
		}
	}
}

// TestTypesKeepNoState asks the same of types between which others were asked about.
func TestTypesKeepNoState(t *testing.T) {
	one, other := typesOf(t, "2 3;0>1:0 2"), typesOf(t, "2 3;0>1:1 1")
	for range 3 {
		if impl.ApplyCoercion(one, 0, 1) != 2 || impl.ApplyCoercion(other, 0, 1) != 1 || !impl.IsInjective(one, 0) || impl.IsInjective(other, 0) {
			t.Fatal("an answer depends on another call")
		}
		impl.ParseTypes("2 3;0>1:")
		if impl.FormatTypes(one) != "2 3;0>1:0 2" {
			t.Fatal("a text depends on another call")
		}
	}
	one.Coercions[0].Map[1] = 1
	if impl.ApplyCoercion(one, 0, 1) != 1 || !impl.IsInjective(one, 0) {
		t.Fatal("an answer is about types as they were")
	}
}

// TestTypesTogether asks about the same types at the same time; it is for the race detector too.
func TestTypesTogether(t *testing.T) {
	types := typesOf(t, eight)
	done := make(chan bool)
	for range 8 {
		go func() {
			good := impl.FormatTypes(types) == eight
			for i := range types.Coercions {
				good = good && impl.ApplyCoercion(types, i, 0) == types.Coercions[i].Map[0]
			}
			done <- good
		}()
	}
	for range 8 {
		if !<-done {
			t.Error("answers differ")
		}
	}
}
