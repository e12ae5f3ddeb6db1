package tests

import (
	"fmt"
	"math/rand"
	"regexp"
	"runtime"
	"slices"
	"strconv"
	"strings"
	"testing"

	"loop.example/overloads/impl"
)

// exampleScript is the script of the example of chapter 12, and exampleOutput its output.
const (
	exampleScript = `system 2 3;0>1:0 1/f(1)1:1 0 2/g(1,1)1:0 0 0 0 1 0 0 0 2
good
make g(f(0:1),0:1)
run g(f(0:1),0:1)
steps g(f(0:1),0:1)
keep
function f(0)0:1 0
good
run f(0:1)
compare f(0:1)
resolve f 0
resolve g 0 1
cost g 0 0
kinds f(0:1)
all 1 f(0:1)
values 1 f(0:1)
cheapest 1 f(0:1)
at 1 f(0:1)
needed 2
coercion 0>1:1 0
coherent
doubt
ways 0 1
ambiguous 0:1
values 1 0:1
unlink 1
drop 2
function f(0)0:0 0
clash
consistent
goodpart
system 2 2;0>1:0 1/f(0,1)0:0 1 0 1/f(1,0)1:0 0 1 1
gap
make f(0:0,0:0)
all 1 f(0:0,0:0)
joins 0 1
coerce 0 1 1
above 0
foo
`
	exampleOutput = `2 3;0>1:0 1/f(1)1:1 0 2/g(1,1)1:0 0 0 0 1 0 0 0 2
true
@1(@0(#0(0:1)),#0(0:1))
1:0
1 1 0 1 1 0
ok
2 3;0>1:0 1/f(1)1:1 0 2/g(1,1)1:0 0 0 0 1 0 0 0 2/f(0)0:1 0
true
0:0
same
f(0)0
g(1,1)1
g(1,1)1
0 1
@0(#0(0:1))
#0(@2(0:1))
0
@0(#0(0:1))
#0(@2(0:1))
true
2 3;0>1:0 1;0>1:1 0/f(1)1:1 0 2/g(1,1)1:0 0 0 0 1 0 0 0 2/f(0)0:1 0
false
0:0 to 1 by 0 or 1
0
1
true
0 1
2 3;0>1:0 1/f(1)1:1 0 2/g(1,1)1:0 0 0 0 1 0 0 0 2/f(0)0:1 0
2 3;0>1:0 1/f(1)1:1 0 2/g(1,1)1:0 0 0 0 1 0 0 0 2
2 3;0>1:0 1/f(1)1:1 0 2/g(1,1)1:0 0 0 0 1 0 0 0 2/f(0)0:0 0
2 and 0 at 0
false
2 3;0>1:0 1/f(1)1:1 0 2/g(1,1)1:0 0 0 0 1 0 0 0 2
2 2;0>1:0 1/f(0,1)0:0 1 0 1/f(1,0)1:0 0 1 1
f of 0 0
many
#0(@0(0:0,#0(0:0)))
@1(#0(0:0),0:0)
1
1
0 1
what
`
)

// The types of deskTypes are coherent, with one that lies apart. Of the functions of deskSystem, both f agree, both g have
// a gap, and h has no arguments.
const (
	deskTypes  = "2 3 2 1;0>1:0 2;1>2:0 1 1;0>2:0 1"
	deskSystem = deskTypes + "/f(1)1:2 1 0/f(0)0:1 0/g(0,1)0:0 0 0 1 1 1/g(1,0)1:0 0 1 1 2 2/h()1:2/k(2)2:0 1"
)

// faulty has each fault that a system can have.
const faulty = "2 2;0>1:0 1;0>1:1 0/f(0)0:0 1/f(1)1:1 1/g(0,1)0:0 0 0 0/g(1,0)0:0 0 0 0"

// changing are the words of the lines by which the system becomes another one.
var changing = []string{"system", "coercion", "function", "unlink", "drop", "reduce", "goodpart"}

// A deskLine is a line of a script, and what it puts out.
type deskLine struct {
	line string
	want string
}

// checkScript compares the output of a script with what is wanted.
func checkScript(t *testing.T, script string, want string) {
	t.Helper()
	if got := impl.RunScript(script); got != want {
		t.Errorf("RunScript(%.600q) returns %.600q, not %.600q", script, got, want)
	}
}

// checkDesk compares the output of each line, alone after one that puts a system, with what is wanted, and checks that the
// system becomes what is put out if the line is one of those that change it, and else stays.
func checkDesk(t *testing.T, system string, list ...deskLine) {
	t.Helper()
	for _, c := range list {
		after := system
		word, _, _ := strings.Cut(c.line, " ")
		if slices.Contains(changing, word) && c.want != "no" && c.want != "what" {
			after = c.want
		}
		checkScript(t, "system "+system+"\n"+c.line+"\nsystem\n", system+"\n"+c.want+"\n"+after+"\n")
	}
}

// checkDeskAll does the same for lines that all put out the same.
func checkDeskAll(t *testing.T, system string, want string, lines ...string) {
	t.Helper()
	for _, line := range lines {
		checkDesk(t, system, deskLine{line, want})
	}
}

func TestDeskExample(t *testing.T) {
	checkScript(t, exampleScript, exampleOutput)
	checkScript(t, strings.TrimSuffix(exampleScript, "\n"), exampleOutput)
}

func TestFormatNumbers(t *testing.T) {
	for _, c := range []struct {
		list []int
		want string
	}{
		{nil, "-"},
		{[]int{}, "-"},
		{spare(), "-"},
		{[]int{0}, "0"},
		{[]int{-1}, "-1"},
		{[]int{0, 0}, "0 0"},
		{[]int{1, 0, -3}, "1 0 -3"},
		{[]int{10, 100, 99, -10}, "10 100 99 -10"},
		{spare(3, 1, 2), "3 1 2"},
		{[]int{most, least}, "9223372036854775807 -9223372036854775808"},
		{make([]int, 1000), strings.Repeat("0 ", 999) + "0"},
	} {
		if got := impl.FormatNumbers(c.list); got != c.want {
			t.Errorf("FormatNumbers(%.80v) returns %.80q, not %.80q", c.list, got, c.want)
		}
	}
}

func TestFormatDoubt(t *testing.T) {
	for _, c := range []struct {
		doubt impl.Doubt
		want  string
	}{
		{impl.Doubt{}, "0:0 to 0 by - or -"},
		{impl.Doubt{From: 0, To: 2, Value: 1, First: []int{0, 2}, Second: []int{1}}, "0:1 to 2 by 0 2 or 1"},
		{impl.Doubt{From: 1, To: 2, Value: 3, First: []int{0, 4}}, "1:3 to 2 by 0 4 or -"},
		{impl.Doubt{From: 4, To: 3, Value: 2, Second: spare(1, 0)}, "4:2 to 3 by - or 1 0"},
		{impl.Doubt{From: -1, To: -20, Value: -3, First: []int{-4}, Second: []int{-50, 6}}, "-1:-3 to -20 by -4 or -50 6"},
		{impl.Doubt{From: most, To: least, Value: most}, "9223372036854775807:9223372036854775807 to -9223372036854775808 by - or -"},
	} {
		if got := impl.FormatDoubt(c.doubt); got != c.want {
			t.Errorf("FormatDoubt(%v) returns %q, not %q", c.doubt, got, c.want)
		}
	}
}

func TestFormatGap(t *testing.T) {
	for _, c := range []struct {
		gap  impl.Gap
		want string
	}{
		{impl.Gap{}, " of -"},
		{impl.Gap{Name: "f"}, "f of -"},
		{impl.Gap{Name: "f", Kinds: []int{0, 1}}, "f of 0 1"},
		{impl.Gap{Name: "k", Kinds: spare(4)}, "k of 4"},
		{impl.Gap{Name: "of of", Kinds: []int{-1, 0, 10}}, "of of of -1 0 10"},
		{impl.Gap{Name: "\x00\xff\n", Kinds: []int{least}}, "\x00\xff\n of -9223372036854775808"},
	} {
		if got := impl.FormatGap(c.gap); got != c.want {
			t.Errorf("FormatGap(%v) returns %q, not %q", c.gap, got, c.want)
		}
	}
}

func TestFormatClash(t *testing.T) {
	for _, c := range []struct {
		clash impl.Clash
		want  string
	}{
		{impl.Clash{}, "0 and 0 at -"},
		{impl.Clash{First: 2, Values: []int{1}}, "2 and 0 at 1"},
		{impl.Clash{First: 0, Second: 7, Values: spare(3, 0)}, "0 and 7 at 3 0"},
		{impl.Clash{First: -1, Second: -10, Values: []int{-1, 2, 3}}, "-1 and -10 at -1 2 3"},
		{impl.Clash{First: least, Second: most}, "-9223372036854775808 and 9223372036854775807 at -"},
	} {
		if got := impl.FormatClash(c.clash); got != c.want {
			t.Errorf("FormatClash(%v) returns %q, not %q", c.clash, got, c.want)
		}
	}
}

// sameClash reports whether two clashes are the same.
func sameClash(a impl.Clash, b impl.Clash) bool {
	return a.First == b.First && a.Second == b.Second && slices.Equal(a.Values, b.Values)
}

// someNumber returns a pseudo-random number, of few digits or of many.
func someNumber(source *rand.Rand) int {
	number := int(source.Uint64()) >> source.Intn(64)
	if source.Intn(20) == 0 {
		number = []int{most, least}[source.Intn(2)]
	}
	return number
}

// someList returns a pseudo-random list.
func someList(source *rand.Rand) []int {
	var list []int
	for range source.Intn(5) {
		list = append(list, someNumber(source))
	}
	return list
}

// otherList returns a list that mostly differs a little from another one.
func otherList(source *rand.Rand, list []int) []int {
	other := slices.Clone(list)
	switch i := source.Intn(len(list) + 1); source.Intn(6) {
	case 0:
		other = slices.Insert(other, i, someNumber(source))
	case 1:
		other = slices.Delete(other, i, min(i+1, len(other)))
	case 2:
		slices.Reverse(other)
	case 3:
		if i < len(other) {
			other[i] = -other[i]
		}
	case 4:
		if i < len(other) {
			other[i] /= 10
		}
	}
	return other
}

// TestTextsTellListsApart checks that two lists have the same text exactly if they are the same.
func TestTextsTellListsApart(t *testing.T) {
	const low, high = -2, 12
	texts := map[string][]int{}
	for length := range 4 {
		for _, list := range rows(length, low, high) {
			text := impl.FormatNumbers(list)
			if other, ok := texts[text]; ok {
				t.Errorf("%v and %v have the text %q", other, list, text)
			}
			texts[text] = list
		}
	}
	source := rand.New(rand.NewSource(120))
	seen := map[string]int{}
	for range 20000 {
		list := someList(source)
		other := otherList(source, list)
		same := slices.Equal(list, other)
		if got := impl.FormatNumbers(list) == impl.FormatNumbers(other); got != same {
			t.Fatalf("%v and %v have the same text: %v", list, other, got)
		}
		seen["same "+strconv.FormatBool(same)]++
	}
	checkSeen(t, seen, 1000, "same true", "same false")
}

// TestTextsTellClashesApart checks that two clashes have the same text exactly if they are the same.
func TestTextsTellClashesApart(t *testing.T) {
	texts := map[string]impl.Clash{}
	for length := range 3 {
		for _, values := range rows(length, -1, 3) {
			for _, pair := range rows(2, -2, 12) {
				clash := impl.Clash{First: pair[0], Second: pair[1], Values: values}
				text := impl.FormatClash(clash)
				if other, ok := texts[text]; ok {
					t.Errorf("%v and %v have the text %q", other, clash, text)
				}
				texts[text] = clash
			}
		}
	}
	source := rand.New(rand.NewSource(121))
	seen := map[string]int{}
	for range 20000 {
		clash := impl.Clash{First: someNumber(source), Second: someNumber(source), Values: someList(source)}
		other := clash
		switch source.Intn(6) {
		case 0:
			other.First, other.Second = clash.Second, clash.First
		case 1:
			other.First /= 10
		case 2:
			other.Second = -clash.Second
		default:
			other.Values = otherList(source, clash.Values)
		}
		same := sameClash(clash, other)
		if got := impl.FormatClash(clash) == impl.FormatClash(other); got != same {
			t.Fatalf("%v and %v have the same text: %v", clash, other, got)
		}
		seen["same "+strconv.FormatBool(same)]++
	}
	checkSeen(t, seen, 1000, "same true", "same false")
}

// TestTextsTellFaultsApart checks the same of doubts, and of gaps of the names that functions can have.
func TestTextsTellFaultsApart(t *testing.T) {
	texts := map[string]string{}
	check := func(text string, fault string) {
		if other, ok := texts[text]; ok {
			t.Errorf("%s and %s have the text %q", other, fault, text)
		}
		texts[text] = fault
	}
	lists := append(rows(0, 0, 1), append(rows(1, 0, 2), rows(2, 0, 2)...)...)
	for _, numbers := range rows(3, 0, 3) {
		for _, first := range lists {
			for _, second := range lists {
				d := impl.Doubt{From: numbers[0], To: numbers[1], Value: numbers[2], First: first, Second: second}
				check(impl.FormatDoubt(d), fmt.Sprint(d))
			}
		}
	}
	for _, name := range strings.Split("fghijk", "") {
		for _, kinds := range lists {
			check(impl.FormatGap(impl.Gap{Name: name, Kinds: kinds}), name+fmt.Sprint(kinds))
		}
	}
}

func TestDeskBeforeAnyLine(t *testing.T) {
	checkScript(t, "", "")
	for _, c := range []deskLine{
		{"system", "1"}, {"coherent", "true"}, {"regular", "true"}, {"consistent", "true"}, {"good", "true"},
		{"doubt", "-"}, {"gap", "-"}, {"clash", "-"}, {"reduce", "1"}, {"goodpart", "1"}, {"keep", "ok"},
		{"compare 0:0", "same"}, {"compare 0:1", "none"}, {"compare f()", "none"}, {"above 0", "0"}, {"run 0:0", "0:0"},
		{"unlink 0", "no"}, {"drop 0", "no"}, {"needed 0", "no"}, {"resolve f", "none"}, {"function f()0:0", "1/f()0:0"},
		{"coercion 0>1:0", "no"},
	} {
		checkScript(t, c.line, c.want+"\n")
	}
	// What is kept before any line has one type of one value, and no function.
	checkScript(t, "system 2 1/h()0:0\ncompare 0:0\ncompare 0:1\ncompare 1:0\ncompare h()", "2 1/h()0:0\nsame\ngained\ngained\ngained\n")
	checkScript(t, "system 2 1/h()0:0\nkeep\nsystem 1\ncompare 0:0\ncompare 0:1\ncompare 1:0\ncompare h()", "2 1/h()0:0\nok\n1\nsame\nlost\nlost\nlost\n")
}

func TestDeskSystem(t *testing.T) {
	checkDesk(t, "1", deskLine{"system", "1"})
	for _, text := range goodSystems {
		checkDesk(t, "1", deskLine{"system " + text, text})
		checkDesk(t, text, deskLine{"system", text}, deskLine{"system 1", "1"})
	}
	checkDeskAll(t, deskSystem, "no",
		"system ", "system  ", "system  1", "system 1 ", "system x", "system 0", "system 5", "system 01", "system +1", "system -1", "system 1  1", "system 1\t1",
		"system 1 1 1 1 1 1", "system 1;", "system 1/", "system 1 1;1>0:0", "system 1 1;0>1:1", "system 1 1;0>1:0 0", "system 1 1;0>1:0;", "system ;", "system /f()0:0",
		"system 1/f()0:1", "system 1/f()0:0/f()0:0", "system 1/f()1:0", "system 1/e()0:0", "system 1/f(0)0:0 0", "system 1/f(0,0,0)0:0", "system 1/f()0:0/", "system 1/f()0:0 ",
		"system 1\r", "system 1\x00", "system system 1", "system "+strings.Repeat("1 ", 5000)+"1")
	// What the text of a system is not, though it tells one.
	for edit := range edits("2 1;0>1:0 0/f(0)1:0 0") {
		want := deskLine{"system " + edit, "no"}
		if strings.Contains(edit, "\n") {
			continue
		}
		if isSystemText(edit) {
			want.want = edit
		}
		checkDesk(t, deskSystem, want)
	}
}

func TestDeskCoercion(t *testing.T) {
	functions := strings.TrimPrefix(deskSystem, deskTypes)
	checkDesk(t, deskSystem,
		deskLine{"coercion 0>1:1 1", deskTypes + ";0>1:1 1" + functions},
		deskLine{"coercion 0>1:0 2", deskTypes + ";0>1:0 2" + functions},
		deskLine{"coercion 1>3:0 0 0", deskTypes + ";1>3:0 0 0" + functions})
	checkDesk(t, "2 1", deskLine{"coercion 0>1:0 0", "2 1;0>1:0 0"})
	checkDeskAll(t, deskSystem, "no",
		"coercion ", "coercion  ", "coercion  0>1:1 1", "coercion 0>1:1 1 ", "coercion 0>1:1  1", "coercion ;0>1:1 1", "coercion 0>1:1 1;", "coercion 0>1:1 1;0>1:1 1", "coercion 0>1:1 1/f(2)2:0 0",
		"coercion 0>1:1", "coercion 0>1:1 1 1", "coercion 0>1:", "coercion 0>1", "coercion 0>", "coercion 0", "coercion >1:1 1", "coercion 0:1 1", "coercion 0>1:3 1", "coercion 1>0:0 0 0", "coercion 0>0:0 1",
		"coercion 0>4:0 0", "coercion 4>5:0", "coercion 00>1:1 1", "coercion 0>01:1 1", "coercion 0>1:01 1", "coercion +0>1:1 1", "coercion 0>1:+1 1", "coercion -1>1:1 1", "coercion 0>-1:1 1", "coercion 0>1:-1 1",
		"coercion 0 >1:1 1", "coercion 0> 1:1 1", "coercion 0>1: 1 1", "coercion 0>1:1,1", "coercion x", "coercion 0>1:1 1\r", "coercion 0>1:1 1\x00", "coercion 12345678901234567890>1:0")
	const seven = "1 1;0>1:0;0>1:0;0>1:0;0>1:0;0>1:0;0>1:0;0>1:0"
	checkDesk(t, seven, deskLine{"coercion 0>1:0", seven + ";0>1:0"})
	checkDesk(t, seven+";0>1:0", deskLine{"coercion 0>1:0", "no"})
}

func TestDeskFunction(t *testing.T) {
	checkDesk(t, deskSystem,
		deskLine{"function f(2)3:0 0", deskSystem + "/f(2)3:0 0"},
		deskLine{"function f()0:1", deskSystem + "/f()0:1"},
		deskLine{"function i(3,0)1:2 1", deskSystem + "/i(3,0)1:2 1"},
		deskLine{"function k(0)0:1 1", deskSystem + "/k(0)0:1 1"})
	checkDeskAll(t, deskSystem, "no",
		"function ", "function  ", "function  f()0:1", "function f()0:1 ", "function f()0:1 1", "function /f()0:1", "function f()0:1/", "function f()0:1/i()0:1", "function f()0:1;0>1:0 0",
		"function f(0)0:1 0", "function f(0)1:1 0", "function h()0:0", "function e()0:0", "function l()0:0", "function F()0:0", "function ff()0:0", "function ()0:0", "function f", "function f()", "function f()0", "function f()0:",
		"function f(4)0:0", "function f()4:0", "function f()0:2", "function f(2)0:0", "function f(2)0:0 0 0", "function f(2)0:0  0", "function f(3,3,3)0:0", "function f(,)0:0", "function f(2,)0:0 0", "function f(2 2)0:0 0 0 0", "function f(2, 2)0:0 0 0 0",
		"function f(02)0:0 0", "function f(+2)0:0 0", "function f(-1)0:0 0", "function f()-1:0", "function f()00:0", "function f()0:00", "function f()0:-1", "function f()0:+1", "function f()0:1\r", "function x")
	const seven = "1/f()0:0/g()0:0/h()0:0/i()0:0/j()0:0/k()0:0/f(0)0:0"
	checkDesk(t, seven, deskLine{"function g(0)0:0", seven + "/g(0)0:0"})
	checkDesk(t, seven+"/g(0)0:0", deskLine{"function h(0)0:0", "no"})
}

func TestDeskUnlinkAndDrop(t *testing.T) {
	functions := strings.TrimPrefix(deskSystem, deskTypes)
	checkDesk(t, deskSystem,
		deskLine{"unlink 0", "2 3 2 1;1>2:0 1 1;0>2:0 1" + functions},
		deskLine{"unlink 1", "2 3 2 1;0>1:0 2;0>2:0 1" + functions},
		deskLine{"unlink 2", "2 3 2 1;0>1:0 2;1>2:0 1 1" + functions},
		deskLine{"unlink 3", "no"},
		deskLine{"unlink 8", "no"},
		deskLine{"drop 0", deskTypes + "/f(0)0:1 0/g(0,1)0:0 0 0 1 1 1/g(1,0)1:0 0 1 1 2 2/h()1:2/k(2)2:0 1"},
		deskLine{"drop 3", deskTypes + "/f(1)1:2 1 0/f(0)0:1 0/g(0,1)0:0 0 0 1 1 1/h()1:2/k(2)2:0 1"},
		deskLine{"drop 5", deskTypes + "/f(1)1:2 1 0/f(0)0:1 0/g(0,1)0:0 0 0 1 1 1/g(1,0)1:0 0 1 1 2 2/h()1:2"},
		deskLine{"drop 6", "no"},
		deskLine{"drop 99999999999999999", "no"})
	checkDesk(t, "1 1;0>1:0", deskLine{"unlink 0", "1 1"}, deskLine{"unlink 1", "no"}, deskLine{"drop 0", "no"})
	checkDesk(t, "1/f()0:0", deskLine{"drop 0", "1"}, deskLine{"drop 1", "no"}, deskLine{"unlink 0", "no"})
}

func TestDeskReduceAndGoodPart(t *testing.T) {
	functions := strings.TrimPrefix(deskSystem, deskTypes)
	checkDesk(t, deskSystem,
		deskLine{"reduce", "2 3 2 1;0>1:0 2;1>2:0 1 1" + functions},
		deskLine{"goodpart", deskTypes + "/f(1)1:2 1 0/f(0)0:1 0/g(0,1)0:0 0 0 1 1 1/h()1:2/k(2)2:0 1"})
	checkDesk(t, "1", deskLine{"reduce", "1"}, deskLine{"goodpart", "1"})
	checkDesk(t, "2 2;0>1:0 1;0>1:0 1;0>1:0 1/f()0:0", deskLine{"reduce", "2 2;0>1:0 1/f()0:0"})
	// Types that are not coherent have no good part, but can be reduced.
	checkDesk(t, faulty, deskLine{"goodpart", "no"}, deskLine{"reduce", faulty})
	checkDesk(t, "2 2;0>1:0 1;0>1:1 0;0>1:0 1/f()0:0", deskLine{"goodpart", "no"}, deskLine{"reduce", "2 2;0>1:0 1;0>1:1 0/f()0:0"})
	checkDesk(t, "2 2;0>1:0 1/f(0)0:0 1/f(1)1:1 1/f()0:0", deskLine{"goodpart", "2 2;0>1:0 1/f(0)0:0 1/f()0:0"})
}

func TestDeskFaults(t *testing.T) {
	for _, c := range []struct {
		system string
		// The outputs of the lines, in the order of their words below.
		want []string
	}{
		{"1", []string{"true", "true", "true", "true", "-", "-", "-"}},
		{"2 3;0>1:0 1/f(1)1:1 0 2/f(0)0:1 0", []string{"true", "true", "true", "true", "-", "-", "-"}},
		{deskSystem, []string{"true", "false", "true", "false", "-", "g of 0 0", "-"}},
		{faulty, []string{"false", "false", "false", "false", "0:0 to 1 by 0 or 1", "g of 0 0", "0 and 1 at 0"}},
		{"2 2 2;0>1:0 1;0>2:0 1;1>2:0 0", []string{"false", "true", "true", "false", "0:1 to 2 by 0 2 or 1", "-", "-"}},
		{"2 2;0>1:0 1/g(0,0)0:0 0 0 1/g(1,1)1:0 0 0 0", []string{"true", "true", "false", "false", "-", "-", "0 and 1 at 1 1"}},
		{"2 2;0>1:0 1/f(1)1:0 0/g()0:0/f(0)0:0 1", []string{"true", "true", "false", "false", "-", "-", "2 and 0 at 1"}},
		{"1 1 1;0>1:0;0>2:0/k(1)0:0/k(2)0:0", []string{"true", "false", "true", "false", "-", "k of 0", "-"}},
	} {
		for i, word := range []string{"coherent", "regular", "consistent", "good", "doubt", "gap", "clash"} {
			checkDesk(t, c.system, deskLine{word, c.want[i]})
		}
	}
}

func TestDeskWays(t *testing.T) {
	checkDesk(t, deskSystem,
		deskLine{"ways 0 1", "0"},
		deskLine{"ways 0 2", "0 1\n2"},
		deskLine{"ways 1 2", "1"},
		// The way of no coercions, and no way.
		deskLine{"ways 0 0", "-"},
		deskLine{"ways 3 3", "-"},
		deskLine{"ways 1 0", "-"},
		deskLine{"ways 0 3", "-"},
		deskLine{"ways 0 4", "no"},
		deskLine{"ways 4 0", "no"},
		deskLine{"ways 4 4", "no"})
	checkDesk(t, "1 1;0>1:0;0>1:0;0>1:0;0>1:0;0>1:0;0>1:0;0>1:0;0>1:0", deskLine{"ways 0 1", "0\n1\n2\n3\n4\n5\n6\n7"})
	checkDesk(t, eight, deskLine{"ways 0 4", "0 4 5 2\n0 7\n1 4 5 2\n1 7\n3\n6 2"})
}

func TestDeskAboveAndJoins(t *testing.T) {
	checkDesk(t, deskSystem,
		deskLine{"above 0", "0 1 2"},
		deskLine{"above 1", "1 2"},
		deskLine{"above 2", "2"},
		deskLine{"above 3", "3"},
		deskLine{"above 4", "no"},
		deskLine{"joins 0 0", "0"},
		deskLine{"joins 0 1", "1"},
		deskLine{"joins 2 1", "2"},
		// No type is above both.
		deskLine{"joins 0 3", "-"},
		deskLine{"joins 3 2", "-"},
		deskLine{"joins 3 3", "3"},
		deskLine{"joins 0 4", "no"},
		deskLine{"joins 4 0", "no"},
		deskLine{"joins 4 4", "no"})
	checkDesk(t, "1 1 1 1;0>2:0;1>2:0;0>3:0;1>3:0", deskLine{"joins 0 1", "2 3"}, deskLine{"joins 1 0", "2 3"})
}

func TestDeskCoerce(t *testing.T) {
	checkDesk(t, deskSystem,
		deskLine{"coerce 0 1 0", "0"},
		deskLine{"coerce 0 1 1", "2"},
		deskLine{"coerce 0 2 1", "1"},
		deskLine{"coerce 1 2 2", "1"},
		deskLine{"coerce 0 0 1", "1"},
		deskLine{"coerce 3 3 0", "0"})
	// No way, no type, no value.
	checkDeskAll(t, deskSystem, "no", "coerce 1 0 0", "coerce 0 3 0", "coerce 0 4 0", "coerce 4 0 0", "coerce 4 4 0", "coerce 0 1 2", "coerce 0 0 2", "coerce 3 3 1", "coerce 0 1 99999999999999999")
	// The first one of the shortest ways.
	checkDesk(t, "2 2;0>1:0 1;0>1:1 0", deskLine{"coerce 0 1 1", "1"})
	checkDesk(t, "2 2 2;0>1:0 1;1>2:0 1;0>2:1 0", deskLine{"coerce 0 2 1", "0"})
}

func TestDeskNeeded(t *testing.T) {
	checkDesk(t, deskSystem,
		deskLine{"needed 0", "true"},
		deskLine{"needed 1", "true"},
		deskLine{"needed 5", "true"},
		deskLine{"needed 6", "no"},
		deskLine{"needed 99999999999999999", "no"})
	checkDesk(t, "2 3;0>1:0 1/f(0)1:1 0/f(1)1:1 0 2", deskLine{"needed 0", "false"}, deskLine{"needed 1", "true"}, deskLine{"needed 2", "no"})
}

func TestDeskResolveAndCost(t *testing.T) {
	for _, c := range []struct{ call, below, byCost string }{
		{"f 0", "f(0)0", "f(0)0"},
		{"f 1", "f(1)1", "f(1)1"},
		{"h", "h()1", "h()1"},
		{"k 0", "k(2)2", "k(2)2"},
		{"k 2", "k(2)2", "k(2)2"},
		{"g 0 1", "g(0,1)0", "g(0,1)0"},
		{"g 1 0", "g(1,0)1", "g(1,0)1"},
		// Reasons in place of functions.
		{"g 0 0", "many", "many"},
		{"g 1 1", "none", "none"},
		{"f 2", "none", "none"},
		{"f 3", "none", "none"},
		{"f", "none", "none"},
		{"h 0", "none", "none"},
		{"g 0", "none", "none"},
		{"g 0 1 0", "none", "none"},
		{"f 0 0 0 0 0 0 0 0", "none", "none"},
		{"j 0", "none", "none"},
		// Whatever the name is, and whether there are such types or not.
		{"", "none", "none"},
		{" 0", "none", "none"},
		{"F 0", "none", "none"},
		{"ff 0", "none", "none"},
		{"f(0)", "none", "none"},
		{"f\t0", "none", "none"},
		{"\xff\x00 0 0", "none", "none"},
		{"0 0", "none", "none"},
		{"resolve f 0", "no", "no"},
		{"f 4", "none", "none"},
		{"f -1", "none", "none"},
		{"g 0 -1", "none", "none"},
		{"f 99999999999999999", "none", "none"},
		{"f -99999999999999999", "none", "none"},
		{"g 0 12345678901234567", "none", "none"},
		// What are no types.
		{"f ", "no", "no"},
		{" ", "no", "no"},
		{"f  0", "no", "no"},
		{"  0", "no", "no"},
		{"f 0 ", "no", "no"},
		{"g 0  1", "no", "no"},
		{"f x", "no", "no"},
		{"j x", "no", "no"},
		{"g 0 x", "no", "no"},
		{"g x 0", "no", "no"},
		{"g 0,1", "no", "no"},
		{"f 0\r", "no", "no"},
		{"f +0", "no", "no"},
		{"f -0", "no", "no"},
		{"f 00", "no", "no"},
		{"f 01", "no", "no"},
		{"f -01", "no", "no"},
		{"f --1", "no", "no"},
		{"f -", "no", "no"},
		{"f 0x0", "no", "no"},
		{"f 1_0", "no", "no"},
		{"f 1.0", "no", "no"},
		{"f 100000000000000000", "no", "no"},
		{"f -100000000000000000", "no", "no"},
		{"f 000000000000000000", "no", "no"},
		{"f 9223372036854775808", "no", "no"},
		{"f 18446744073709551616", "no", "no"},
		{"f " + strings.Repeat("9", 10000), "no", "no"},
		{"f \u0660", "no", "no"},
	} {
		checkDesk(t, deskSystem, deskLine{"resolve " + c.call, c.below}, deskLine{"cost " + c.call, c.byCost})
	}
	// Rules that do not agree.
	checkDesk(t, "1 1 1;0>1:0;1>2:0/f(0,1)0:0/f(2,0)0:0", deskLine{"resolve f 0 0", "many"}, deskLine{"cost f 0 0", "f(0,1)0"})
	checkDesk(t, "1 1 1;0>1:0;1>2:0;0>2:0/f(1)0:0/f(2)1:0", deskLine{"resolve f 0", "f(1)0"}, deskLine{"cost f 0", "many"})
}

func TestDeskMake(t *testing.T) {
	for _, c := range []struct{ term, made, run, steps string }{
		{"0:1", "0:1", "0:1", "1"},
		{"3:0", "3:0", "3:0", "0"},
		{"h()", "@4()", "1:2", "2"},
		{"f(0:1)", "@1(0:1)", "0:0", "1 0"},
		{"f(h())", "@0(@4())", "1:0", "2 0"},
		{"k(0:1)", "@5(#2(0:1))", "2:1", "1 1 1"},
		{"k(h())", "@5(#1(@4()))", "2:1", "2 1 1"},
		{"g(f(0:1),h())", "@2(@1(0:1),@4())", "0:0", "1 0 2 0"},
		{"g(h(),f(0:0))", "@3(@4(),@1(0:0))", "1:2", "2 0 1 2"},
		// Reasons in place of results, the first one of several.
		{"g(0:0,0:0)", "many", "many", "many"},
		{"f(2:0)", "none", "none", "none"},
		{"f()", "none", "none", "none"},
		{"j(0:0)", "none", "none", "none"},
		{"0:2", "unknown", "unknown", "unknown"},
		{"9:9", "unknown", "unknown", "unknown"},
		{"g(g(0:0,0:0),j())", "many", "many", "many"},
		{"g(j(),g(0:0,0:0))", "none", "none", "none"},
		{"g(0:9,j())", "unknown", "unknown", "unknown"},
		// Whatever the term is.
		{"", "unknown", "unknown", "unknown"},
		{" ", "unknown", "unknown", "unknown"},
		{"x", "unknown", "unknown", "unknown"},
		{"0", "unknown", "unknown", "unknown"},
		{"f", "unknown", "unknown", "unknown"},
		{" 0:1", "unknown", "unknown", "unknown"},
		{"0:1 ", "unknown", "unknown", "unknown"},
		{"0 :1", "unknown", "unknown", "unknown"},
		{"00:1", "unknown", "unknown", "unknown"},
		{"f(0:1", "unknown", "unknown", "unknown"},
		{"f(0:1))", "unknown", "unknown", "unknown"},
		{"f(0:1)\r", "unknown", "unknown", "unknown"},
		{"@1(0:1)", "unknown", "unknown", "unknown"},
		{"#0(0:1)", "unknown", "unknown", "unknown"},
		{"1 0:1", "unknown", "unknown", "unknown"},
		{"\x00\xff", "unknown", "unknown", "unknown"},
		{termOfLength(61), "unknown", "unknown", "unknown"},
		{strings.Repeat("f(", 6000), "unknown", "unknown", "unknown"},
	} {
		checkDesk(t, deskSystem, deskLine{"make " + c.term, c.made}, deskLine{"run " + c.term, c.run}, deskLine{"steps " + c.term, c.steps})
	}
	chain := strings.Repeat("f(", 19) + "0:1" + strings.Repeat(")", 19)
	made := strings.Repeat("@1(", 19) + "0:1" + strings.Repeat(")", 19)
	checkDesk(t, deskSystem, deskLine{"make " + chain, made}, deskLine{"run " + chain, "0:0"}, deskLine{"steps " + chain, strings.Repeat("1 0 ", 9) + "1 0"})
}

func TestDeskAt(t *testing.T) {
	checkDesk(t, deskSystem,
		deskLine{"at 0 0:1", "0:1"},
		deskLine{"at 1 0:1", "#0(0:1)"},
		deskLine{"at 2 0:1", "#2(0:1)"},
		deskLine{"at 2 f(h())", "#1(@0(@4()))"},
		deskLine{"at 3 3:0", "3:0"},
		// No way, no type.
		deskLine{"at 3 0:1", "none"},
		deskLine{"at 0 h()", "none"},
		deskLine{"at 4 0:1", "none"},
		deskLine{"at -1 0:1", "none"},
		deskLine{"at 99999999999999999 0:1", "none"},
		// The reasons of the term come first.
		deskLine{"at 0 g(0:0,0:0)", "many"},
		deskLine{"at 9 g(0:0,0:0)", "many"},
		deskLine{"at x f()", "none"},
		deskLine{"at 0 0:2", "unknown"},
		deskLine{"at 9 0:2", "unknown"})
	// No number in front of the term.
	checkDeskAll(t, deskSystem, "none", "at x 0:1", "at  0:1", "at 00 0:1", "at 01 0:1", "at +0 0:1", "at -0 0:1", "at 0x0 0:1", "at 0: 0:1", "at 0\t 0:1", "at 100000000000000000 0:1", "at 000000000000000000 0:1", "at 18446744073709551616 0:1", "at 0:1 0:1")
	// No space, so that the whole rest is the term.
	checkDesk(t, deskSystem, deskLine{"at 0:1", "none"}, deskLine{"at h()", "none"}, deskLine{"at g(0:0,0:0)", "many"}, deskLine{"at f()", "none"})
	checkDeskAll(t, deskSystem, "unknown", "at ", "at 0", "at 1", "at x", "at 0:2", "at 0,0:1", "at 0\t0:1")
	// Texts that are no terms.
	checkDeskAll(t, deskSystem, "unknown", "at  ", "at 0 ", "at 0 x", "at 0  0:1", "at   0:1", "at 0 0:1 ", "at 0 1 0:1", "at x x", "at 9 x", "at 0 @4()", "at 0 "+termOfLength(61))
}

func TestDeskKindsAndAmbiguous(t *testing.T) {
	checkDesk(t, deskSystem,
		deskLine{"kinds 0:1", "0 1 2"},
		deskLine{"kinds 1:0", "1 2"},
		deskLine{"kinds h()", "1 2"},
		deskLine{"kinds f(0:1)", "0 1 2"},
		deskLine{"kinds g(0:0,0:0)", "0 1 2"},
		deskLine{"kinds 3:0", "3"},
		// Terms without explicit terms.
		deskLine{"kinds 0:2", "-"},
		deskLine{"kinds 9:9", "-"},
		deskLine{"kinds f()", "-"},
		deskLine{"kinds j(0:0)", "-"},
		deskLine{"kinds g(f(2:0),0:0)", "-"},
		deskLine{"ambiguous 0:1", "false"},
		deskLine{"ambiguous f(0:1)", "false"},
		deskLine{"ambiguous f(0:0)", "false"},
		deskLine{"ambiguous g(0:0,0:1)", "false"},
		deskLine{"ambiguous 0:2", "false"},
		deskLine{"ambiguous j()", "false"})
	checkDesk(t, "2 2;0>1:0 1;0>1:1 0", deskLine{"ambiguous 0:1", "true"}, deskLine{"ambiguous 1:1", "false"}, deskLine{"kinds 0:1", "0 1"})
	checkDesk(t, "2 2;0>1:0 1/f(0,1)0:0 1 0 1/f(1,0)1:0 0 1 1", deskLine{"ambiguous f(0:0,0:1)", "true"}, deskLine{"ambiguous f(0:0,0:0)", "false"})
	for _, word := range []string{"kinds", "ambiguous", "compare"} {
		for _, rest := range []string{"", " ", "x", "0", "f", " 0:1", "0:1 ", "0 0:1", "f(0:1", "@1(0:1)", "#0(0:1)", "0:1\r", termOfLength(61)} {
			checkDesk(t, deskSystem, deskLine{word + " " + rest, "no"})
		}
	}
}

func TestDeskAllValuesCheapest(t *testing.T) {
	for _, c := range []struct{ rest, all, values, cheapest string }{
		{"0 0:1", "0:1", "1", "0:1"},
		{"2 0:1", "#1(#0(0:1))\n#2(0:1)", "1", "#2(0:1)"},
		{"1 f(0:1)", "@0(#0(0:1))\n#0(@1(0:1))", "0", "@0(#0(0:1))"},
		{"2 f(0:1)", "#1(@0(#0(0:1)))\n#1(#0(@1(0:1)))\n#2(@1(0:1))", "0", "#2(@1(0:1))"},
		{"0 g(0:0,0:1)", "@2(0:0,#0(0:1))", "0", "@2(0:0,#0(0:1))"},
		{"1 g(0:0,0:1)", "#0(@2(0:0,#0(0:1)))\n@3(#0(0:0),0:1)", "0", "@3(#0(0:0),0:1)"},
		{"1 g(0:1,0:0)", "#0(@2(0:1,#0(0:0)))\n@3(#0(0:1),0:0)", "2", "@3(#0(0:1),0:0)"},
		{"1 h()", "@4()", "2", "@4()"},
		// There is none.
		{"0 1:0", "-", "-", "no"},
		{"3 0:0", "-", "-", "no"},
		{"0 0:2", "-", "-", "no"},
		{"0 9:9", "-", "-", "no"},
		{"0 f()", "-", "-", "no"},
		{"0 h()", "-", "-", "no"},
		{"1 j(0:0)", "-", "-", "no"},
		// No type.
		{"4 0:1", "no", "no", "no"},
		{"-1 0:1", "no", "no", "no"},
		{"99999999999999999 0:1", "no", "no", "no"},
		// No number, or no space.
		{"x 0:1", "no", "no", "no"},
		{" 0:1", "no", "no", "no"},
		{"00 0:1", "no", "no", "no"},
		{"01 0:1", "no", "no", "no"},
		{"+0 0:1", "no", "no", "no"},
		{"-0 0:1", "no", "no", "no"},
		{"100000000000000000 0:1", "no", "no", "no"},
		{"000000000000000000 0:1", "no", "no", "no"},
		{"18446744073709551616 0:1", "no", "no", "no"},
		{"0:1", "no", "no", "no"},
		{"0", "no", "no", "no"},
		{"h()", "no", "no", "no"},
		{"", "no", "no", "no"},
		{" ", "no", "no", "no"},
		// No term.
		{"0 ", "no", "no", "no"},
		{"0 x", "no", "no", "no"},
		{"0  0:1", "no", "no", "no"},
		{"0 0:1 ", "no", "no", "no"},
		{"0 1 0:1", "no", "no", "no"},
		{"1 @4()", "no", "no", "no"},
		{"0 " + termOfLength(61), "no", "no", "no"},
	} {
		checkDesk(t, deskSystem, deskLine{"all " + c.rest, c.all}, deskLine{"values " + c.rest, c.values}, deskLine{"cheapest " + c.rest, c.cheapest})
	}
	// Several values, in ascending order, and too many explicit terms.
	checkDesk(t, "2 4;0>1:3 0;0>1:1 0;0>1:3 0", deskLine{"values 1 0:0", "1 3"}, deskLine{"all 1 0:0", "#0(0:0)\n#1(0:0)\n#2(0:0)"}, deskLine{"cheapest 1 0:0", "#0(0:0)"})
	const many = "1 1;0>1:0;0>1:0;0>1:0;0>1:0;0>1:0;0>1:0;0>1:0/f(1,1)1:0"
	checkDesk(t, many, deskLine{"all 1 f(f(0:0,0:0),0:0)", "no"}, deskLine{"values 1 f(f(0:0,0:0),0:0)", "no"}, deskLine{"cheapest 1 f(f(0:0,0:0),0:0)", "no"},
		deskLine{"kinds f(f(0:0,0:0),0:0)", "1"}, deskLine{"ambiguous f(f(0:0,0:0),0:0)", "false"}, deskLine{"values 1 f(0:0,0:0)", "0"}, deskLine{"run f(f(0:0,0:0),0:0)", "1:0"})
}

func TestDeskCompare(t *testing.T) {
	const types = "2 3;0>1:0 1"
	keep := func(system string) string { return "system " + system + "\nkeep\n" }
	kept := func(system string) string { return system + "\nok\n" }
	const from, to = types + "/f(1)1:1 0 2/g(0)0:0 0", types + "/f(1)1:1 0 2/f(0)0:0 0/h()0:1"
	checkScript(t, keep(from)+"compare f(0:0)\ncompare h()\ncompare g(0:0)\ncompare 0:2", kept(from)+"same\nnone\nsame\nnone\n")
	checkScript(t, keep(from)+"system "+to+"\ncompare f(0:0)\ncompare f(0:1)\ncompare h()\ncompare g(0:0)\ncompare k()\ncompare 0:2\ncompare 1:2",
		kept(from)+to+"\nchanged\nsame\ngained\nlost\nnone\nnone\nsame\n")
	checkScript(t, keep(to)+"system "+from+"\ncompare f(0:0)\ncompare f(0:1)\ncompare h()\ncompare g(0:0)", kept(to)+from+"\nchanged\nchanged\nlost\ngained\n")
}

// TestDeskKeeps changes the system in all ways after it was kept, by which the kept one stays, until another one is kept.
func TestDeskKeeps(t *testing.T) {
	const kept = "2 2;0>1:0 1;0>1:0 1/f(0)0:1 0/f(1)1:1 0/h()0:1"
	for _, c := range []struct{ line, system, fates string }{
		{"coercion 0>1:0 1", "2 2;0>1:0 1;0>1:0 1;0>1:0 1/f(0)0:1 0/f(1)1:1 0/h()0:1", "same same same none"},
		{"function k()0:0", kept + "/k()0:0", "same same same gained"},
		{"unlink 0", "2 2;0>1:0 1/f(0)0:1 0/f(1)1:1 0/h()0:1", "same same same none"},
		{"drop 0", "2 2;0>1:0 1;0>1:0 1/f(1)1:1 0/h()0:1", "changed same same none"},
		{"drop 1", "2 2;0>1:0 1;0>1:0 1/f(0)0:1 0/h()0:1", "same lost same none"},
		{"drop 2", "2 2;0>1:0 1;0>1:0 1/f(0)0:1 0/f(1)1:1 0", "same same lost none"},
		{"reduce", "2 2;0>1:0 1/f(0)0:1 0/f(1)1:1 0/h()0:1", "same same same none"},
		{"goodpart", kept, "same same same none"},
		{"system 2 2/k()0:0/f(1)1:0 0/h()0:0", "2 2/k()0:0/f(1)1:0 0/h()0:0", "lost changed changed gained"},
		{"system 1", "1", "lost lost lost none"},
	} {
		compared := "compare f(0:0)\ncompare f(1:0)\ncompare h()\ncompare k()\n"
		fates := strings.ReplaceAll(c.fates, " ", "\n") + "\n"
		script := "system " + kept + "\nkeep\n" + c.line + "\n" + compared
		want := kept + "\nok\n" + c.system + "\n" + fates
		checkScript(t, script, want)
		// It stays after lines that change nothing, and after more lines that change the system.
		script += "system x\nfoo\ndrop 9\nsystem 1\ncompare f(0:0)\nsystem " + c.system + "\n" + compared
		want += "no\nwhat\nno\n1\nlost\n" + c.system + "\n" + fates
		checkScript(t, script, want)
		// Another one that is kept.
		fate := "none"
		if strings.HasSuffix(c.fates, "gained") {
			fate = "lost"
		}
		checkScript(t, script+"keep\ncompare 0:0\nsystem "+kept+"\ncompare k()\nsystem 1\ncompare k()", want+"ok\nsame\n"+kept+"\n"+fate+"\n1\n"+fate+"\n")
	}
}

func TestDeskUnknownLines(t *testing.T) {
	alone := []string{"keep", "reduce", "goodpart", "coherent", "regular", "consistent", "good", "doubt", "gap", "clash"}
	for _, word := range alone {
		checkDeskAll(t, deskSystem, "what", word+" ", word+"  ", word+" 0", word+" x", word+" "+deskSystem, word+" 0:1", word+" "+word, word+"\t", word+"\r", word+"\x00", word+"s", " "+word)
	}
	for _, word := range []string{"coercion", "function", "unlink", "drop", "ways", "above", "joins", "coerce", "resolve", "cost", "needed", "make", "at", "run", "steps", "kinds", "ambiguous", "all", "values", "cheapest", "compare"} {
		checkDeskAll(t, deskSystem, "what", word, word+"\t0 0:1", word+"\r", word+"s", word[1:], " "+word, " "+word+" 0", strings.ToUpper(word)+" 0", word+":0", word+"0 0")
	}
	checkDeskAll(t, deskSystem, "what", " ", "  ", " system", "System", "SYSTEM 1", "systems", "system\t1", "system:1", "foo", "foo 1", "foo ", "-", "0", "1", "\x00", "\xff", "\t", "\r", "what", "no", "full", "long", "ok", "#", "0:1", "f()", "exit", "quit", strings.Repeat("x", 15000))
}

// wrongNumbers are what no number of a line looks like.
var wrongNumbers = []string{"", " ", "+0", "+1", "-0", "00", "01", "-01", "0x0", "0b1", "1_0", "1.0", "1e0", "x", "0x", "0:1", "0,", ",0", "0\t", "\t0", "0\r", "--1", "-", "+", "- 1", "\u0660", "\uff10", "000000000000000000", "000000000000000001", "100000000000000000", "999999999999999999", "9223372036854775807", "9223372036854775808", "18446744073709551616", "-100000000000000000"}

// TestDeskWrongNumbers has lines of numbers in which one of them is none, or no type, index or value, or which have too
// many or too few, or other signs than single spaces between them.
func TestDeskWrongNumbers(t *testing.T) {
	for _, good := range []string{"unlink 0", "drop 0", "above 0", "needed 0", "ways 0 1", "joins 0 1", "coerce 0 1 1"} {
		words := strings.Split(good, " ")
		if strings.HasPrefix(impl.RunScript("system "+deskSystem+"\n"+good), deskSystem+"\nno") {
			t.Errorf("%q is no good line", good)
		}
		for i := 1; i < len(words); i++ {
			for _, wrong := range append([]string{"-1", "9", "10", "12345678901234567", "99999999999999999", "-99999999999999999"}, wrongNumbers...) {
				line := slices.Clone(words)
				line[i] = wrong
				checkDesk(t, deskSystem, deskLine{strings.Join(line, " "), "no"})
			}
		}
		rest := strings.Join(words[1:], " ")
		checkDeskAll(t, deskSystem, "no", words[0]+" ", words[0]+"  ", words[0]+"  "+rest, good+" ", good+" 0", good+"  0", good+" x", good+" 0:1", words[0]+" "+strings.Repeat("0 ", 5000)+"0")
		if len(words) > 2 {
			checkDeskAll(t, deskSystem, "no", words[0]+" 0", words[0]+" "+strings.ReplaceAll(rest, " ", "  "), words[0]+" "+strings.ReplaceAll(rest, " ", ","), words[0]+" "+strings.ReplaceAll(rest, " ", "\t"), words[0]+" "+strings.ReplaceAll(rest, " ", ""))
		}
	}
}

func TestDeskEmptyLines(t *testing.T) {
	checkScript(t, "\n", "")
	checkScript(t, "\n\n\n", "")
	checkScript(t, "\nkeep", "ok\n")
	checkScript(t, "keep\n", "ok\n")
	checkScript(t, "keep\n\n", "ok\n")
	checkScript(t, "\n\nkeep\n\n\ngood\n\n", "ok\ntrue\n")
	checkScript(t, "keep\ngood", "ok\ntrue\n")
	// A line of a space, or of another sign, is not empty.
	checkScript(t, "\n \n", "what\n")
	checkScript(t, "keep\r\ngood\r\n", "what\nwhat\n")
	checkScript(t, "keep\rgood", "what\n")
	checkScript(t, "\x00", "what\n")
}

func TestDeskLongScripts(t *testing.T) {
	empty := strings.Repeat("\n", impl.MaxScript)
	checkScript(t, empty, "")
	checkScript(t, empty+"\n", "long\n")
	checkScript(t, "keep"+empty[4:], "ok\n")
	checkScript(t, "keep\n"+empty[4:], "long\n")
	checkScript(t, strings.Repeat("x", impl.MaxScript), "what\n")
	checkScript(t, strings.Repeat("x", impl.MaxScript+1), "long\n")
	checkScript(t, strings.Repeat("x", impl.MaxScript-1)+"\n", "what\n")
	checkScript(t, strings.Repeat("x", impl.MaxScript)+"\n", "long\n")
	checkScript(t, exampleScript+empty[len(exampleScript):], exampleOutput)
	checkScript(t, exampleScript+empty[len(exampleScript)-1:], "long\n")
	checkScript(t, strings.Repeat("\xff", 1000000), "long\n")
}

func TestDeskManyLines(t *testing.T) {
	ok := func(count int) string { return strings.Repeat("ok\n", count) }
	keep := func(count int) string { return strings.Repeat("keep\n", count) }
	checkScript(t, keep(99), ok(99))
	checkScript(t, keep(99)+"keep", ok(100))
	checkScript(t, keep(100), ok(100))
	checkScript(t, keep(100)+"keep", ok(100)+"full\n")
	checkScript(t, keep(101), ok(100)+"full\n")
	checkScript(t, keep(1000), ok(100)+"full\n")
	// Any other line: an unknown one, one that changes the system.
	checkScript(t, keep(100)+"x\nkeep\n", ok(100)+"full\n")
	checkScript(t, keep(99)+"x\nkeep\n", ok(99)+"what\nfull\n")
	checkScript(t, strings.Repeat("system 2\n", 200), strings.Repeat("2\n", 100)+"full\n")
	// Empty lines count among those before a line, but are none before which anything is put out.
	checkScript(t, strings.Repeat("\n", 99)+"keep", ok(1))
	checkScript(t, strings.Repeat("\n", 100)+"keep", "full\n")
	checkScript(t, strings.Repeat("\n", 5000)+"keep\n\nkeep", "full\n")
	checkScript(t, keep(50)+strings.Repeat("\n", 49)+"keep\nkeep", ok(51)+"full\n")
	checkScript(t, keep(100)+strings.Repeat("\n", 1000), ok(100))
	checkScript(t, keep(100)+strings.Repeat("\n", 1000)+"keep", ok(100)+"full\n")
	checkScript(t, strings.Repeat("keep\n\n", 100), ok(50)+"full\n")
	checkScript(t, strings.Repeat("\nkeep\n", 50), ok(50))
	checkScript(t, strings.Repeat("\nkeep\n", 51), ok(50)+"full\n")
}

// largeLine is a line with an output of many bytes after largeSystem.
const (
	largeSystem = "1 1;0>1:0;0>1:0;0>1:0;0>1:0;0>1:0/f(1,1)1:0/g(1)1:0"
	largeLine   = "all 1 g(g(g(g(g(g(g(g(g(f(f(0:0,0:0),0:0))))))))))"
)

// filledScript returns a script whose output has so many bytes, and this output.
func filledScript(t *testing.T, bytes int) (string, string) {
	t.Helper()
	script, output := "system "+largeSystem+"\n", largeSystem+"\n"
	for _, line := range []string{largeLine, "all 1 g(f(0:0,0:0))", "all 1 0:0", "make 0:0"} {
		told := strings.TrimPrefix(impl.RunScript("system "+largeSystem+"\n"+line), largeSystem+"\n")
		for len(output)+len(told)+2 <= bytes {
			script, output = script+line+"\n", output+told
		}
	}
	for len(output) < bytes {
		if (bytes-len(output))%3 == 0 {
			script, output = script+"keep\n", output+"ok\n"
		} else {
			script, output = script+"gap\n", output+"-\n"
		}
	}
	if len(output) != bytes || strings.Count(script, "\n") > 90 {
		t.Fatalf("the output has %d bytes, of %d lines", len(output), strings.Count(script, "\n"))
	}
	return script, output
}

func TestDeskLargeOutput(t *testing.T) {
	// The output may be as long as the limit before a line, and longer behind it.
	script, output := filledScript(t, impl.MaxOutput)
	checkScript(t, script, output)
	checkScript(t, script+"keep", output+"ok\n")
	checkScript(t, script+"keep\nkeep", output+"ok\nfull\n")
	checkScript(t, script+"\nkeep\n\n\n", output+"ok\n")
	large := impl.RunScript("system " + largeSystem + "\n" + largeLine)[len(largeSystem)+1:]
	checkScript(t, script+largeLine, output+large)
	checkScript(t, script+largeLine+"\nx\nx\n", output+large+"full\n")
	script, output = filledScript(t, impl.MaxOutput-1)
	checkScript(t, script+"gap\nkeep", output+"-\nfull\n")
	script, output = filledScript(t, impl.MaxOutput+1)
	checkScript(t, script, output)
	checkScript(t, script+"\n\n", output)
	checkScript(t, script+"keep", output+"full\n")
	checkScript(t, script+"\n\nx\nkeep\n", output+"full\n")
	// The hundred and first line of a script with a large output.
	checkScript(t, script+strings.Repeat("\n", 200)+"keep", output+"full\n")
}

// A deskModel is a desk by the definition, which asks the functions of the other chapters.
type deskModel struct {
	s impl.System
	k impl.System
}

// newModel returns the desk that there is before any line.
func newModel() *deskModel {
	one := impl.System{Types: impl.Types{Sizes: []int{1}}}
	return &deskModel{one, one}
}

// numberForm is the form of numbers of a line.
var numberForm = regexp.MustCompile(`^(0|-?[1-9][0-9]{0,16})$`)

// numbersByDefinition returns the numbers with single spaces between them that a text is, and whether it is so.
func numbersByDefinition(text string) ([]int, bool) {
	var list []int
	for _, word := range strings.Split(text, " ") {
		if !numberForm.MatchString(word) {
			return nil, false
		}
		number, _ := strconv.Atoi(word)
		list = append(list, number)
	}
	return list, true
}

// listText is the text of a list by the definition.
func listText(list []int) string {
	if len(list) == 0 {
		return "-"
	}
	return joined(list, " ")
}

// textOr returns a text, or another one if it does not hold.
func textOr(text string, ok bool, other string) string {
	if ok {
		return text
	}
	return other
}

// line executes a line that is not empty, and returns its output.
func (m *deskModel) line(line string) string {
	space := strings.Index(line, " ")
	if space < 0 {
		return m.alone(line)
	}
	word, rest := line[:space], line[space+1:]
	switch word {
	case "system", "coercion", "function":
		return m.change(word, rest)
	case "unlink", "drop", "ways", "above", "joins", "coerce", "needed":
		numbers, ok := numbersByDefinition(rest)
		count := map[string]int{"ways": 2, "joins": 2, "coerce": 3}[word]
		if !ok || len(numbers) != max(count, 1) {
			return "no"
		}
		return m.numbers(word, append(numbers, 0, 0))
	case "resolve", "cost":
		return m.call(word, rest)
	case "make", "run", "steps":
		return m.made(word, rest)
	case "at", "all", "values", "cheapest":
		return m.typed(word, rest)
	case "kinds", "ambiguous", "compare":
		if !impl.TermValid(rest) {
			return "no"
		}
		return map[string]func() string{
			"kinds":     func() string { return listText(impl.KindsOf(m.s, rest)) },
			"ambiguous": func() string { return strconv.FormatBool(impl.IsAmbiguous(m.s, rest)) },
			"compare":   func() string { return impl.CompareTerm(m.k, m.s, rest) },
		}[word]()
	}
	return "what"
}

// alone executes a line that is a word.
func (m *deskModel) alone(word string) string {
	switch word {
	case "system":
		return impl.FormatSystem(m.s)
	case "keep":
		m.k = m.s
		return "ok"
	case "reduce":
		types, ok := impl.ReducedTypes(m.s.Types)
		return m.become(impl.System{Types: types, Functions: m.s.Functions}, ok)
	case "goodpart":
		return m.become(impl.GoodPart(m.s))
	case "coherent":
		return strconv.FormatBool(impl.IsCoherent(m.s.Types))
	case "regular":
		return strconv.FormatBool(impl.IsRegular(m.s))
	case "consistent":
		return strconv.FormatBool(impl.IsConsistent(m.s))
	case "good":
		return strconv.FormatBool(impl.IsGood(m.s))
	case "doubt":
		d, ok := impl.DoubtOf(m.s.Types)
		return textOr(fmt.Sprintf("%d:%d to %d by %s or %s", d.From, d.Value, d.To, listText(d.First), listText(d.Second)), ok, "-")
	case "gap":
		g, ok := impl.GapOf(m.s)
		return textOr(fmt.Sprintf("%s of %s", g.Name, listText(g.Kinds)), ok, "-")
	case "clash":
		c, ok := impl.ClashOf(m.s)
		return textOr(fmt.Sprintf("%d and %d at %s", c.First, c.Second, listText(c.Values)), ok, "-")
	}
	return "what"
}

// become puts another system if there is one.
func (m *deskModel) become(s impl.System, ok bool) string {
	if !ok {
		return "no"
	}
	m.s = s
	return impl.FormatSystem(s)
}

// change executes a line with a system, a coercion or a function. A coercion and a function are read in a text that has
// nothing else but the types, which stand in the text of a system too.
func (m *deskModel) change(word string, rest string) string {
	sizes := joined(m.s.Sizes, " ")
	switch word {
	case "coercion":
		types, ok := impl.ParseTypes(sizes + ";" + rest)
		if !ok || len(types.Coercions) != 1 {
			return "no"
		}
		return m.become(impl.AddCoercion(m.s, types.Coercions[0]))
	case "function":
		s, ok := impl.ParseSystem(sizes + "/" + rest)
		if !ok || len(s.Functions) != 1 {
			return "no"
		}
		return m.become(impl.WithFunction(m.s, s.Functions[0]))
	}
	return m.become(impl.ParseSystem(rest))
}

// numbers executes a line with numbers, behind which there are others.
func (m *deskModel) numbers(word string, n []int) string {
	isKind := func(kind int) bool { return 0 <= kind && kind < len(m.s.Sizes) }
	switch word {
	case "unlink":
		types, ok := impl.WithoutCoercion(m.s.Types, n[0])
		return m.become(impl.System{Types: types, Functions: m.s.Functions}, ok)
	case "drop":
		return m.become(impl.DropFunction(m.s, n[0]))
	case "ways":
		list, ok := impl.WaysOf(m.s.Types, n[0], n[1])
		var lines []string
		for _, way := range list {
			lines = append(lines, listText(way))
		}
		return textOr(textOr(strings.Join(lines, "\n"), len(lines) > 0, "-"), ok, "no")
	case "above":
		return textOr(listText(impl.AboveOf(m.s.Types, n[0])), isKind(n[0]), "no")
	case "joins":
		return textOr(listText(impl.JoinsOf(m.s.Types, n[0], n[1])), isKind(n[0]) && isKind(n[1]), "no")
	case "coerce":
		value := impl.Coerce(m.s.Types, n[0], n[1], n[2])
		return textOr(strconv.Itoa(value), value != -1, "no")
	}
	return textOr(strconv.FormatBool(impl.IsNeeded(m.s, n[0])), 0 <= n[0] && n[0] < len(m.s.Functions), "no")
}

// call executes a line with a name and types.
func (m *deskModel) call(word string, rest string) string {
	name, kinds, hasKinds := strings.Cut(rest, " ")
	var list []int
	if hasKinds {
		numbers, ok := numbersByDefinition(kinds)
		if !ok {
			return "no"
		}
		list = numbers
	}
	i, why := impl.ResolveCall(m.s, name, list)
	if word == "cost" {
		i, why = impl.ResolveByCost(m.s, name, list)
	}
	return textOr(impl.SignatureOf(m.s, i), why == "one", why)
}

// made executes a line with any text in place of a term.
func (m *deskModel) made(word string, rest string) string {
	made, _, why := impl.Elaborate(m.s, rest)
	if why != "ok" {
		return why
	}
	switch word {
	case "run":
		value, kind, _ := impl.RunTerm(m.s, rest)
		return strconv.Itoa(kind) + ":" + strconv.Itoa(value)
	case "steps":
		values, _ := impl.StepsOf(m.s, made)
		return listText(values)
	}
	return made
}

// typed executes a line with a type and a term.
func (m *deskModel) typed(word string, rest string) string {
	kind, term := -1, rest
	if space := strings.Index(rest, " "); space >= 0 {
		term = rest[space+1:]
		if numbers, ok := numbersByDefinition(rest[:space]); ok {
			kind = numbers[0]
		}
	}
	switch word {
	case "at":
		made, why := impl.ElaborateAt(m.s, term, kind)
		return textOr(made, why == "ok", why)
	case "all":
		mades, ok := impl.AllMade(m.s, term, kind)
		return textOr(textOr(strings.Join(mades, "\n"), len(mades) > 0, "-"), ok, "no")
	case "values":
		values, ok := impl.ValuesOf(m.s, term, kind)
		return textOr(listText(values), ok, "no")
	}
	made, ok := impl.CheapestMade(m.s, term, kind)
	return textOr(made, ok, "no")
}

// modelOutputs returns the outputs of the lines of a script by the definition, in order, each empty line with none.
func modelOutputs(lines []string) []string {
	m := newModel()
	var outputs []string
	bytes := 0
	for i, line := range lines {
		output := ""
		if line != "" && (i >= impl.MaxLines || bytes > impl.MaxOutput) {
			return append(outputs, "full\n")
		}
		if line != "" {
			output = m.line(line) + "\n"
		}
		bytes += len(output)
		outputs = append(outputs, output)
	}
	return outputs
}

// checkByModel compares the output of a script with the definition, and checks that it begins with that of the first
// lines of it, for all or for some of them.
func checkByModel(t *testing.T, source *rand.Rand, lines []string) {
	t.Helper()
	script := strings.Join(lines, "\n")
	if len(script) > impl.MaxScript {
		checkScript(t, script, "long\n")
		return
	}
	outputs := modelOutputs(lines)
	output := strings.Join(outputs, "")
	checkScript(t, script, output)
	for range 3 {
		i := source.Intn(len(outputs) + 1)
		first := strings.Join(outputs[:i], "")
		if i == len(outputs) {
			first = output
		}
		begin := strings.Join(lines[:i], "\n")
		if !strings.HasSuffix(output, "full\n") || i < len(outputs) {
			checkScript(t, begin, first)
			if len(begin) < impl.MaxScript {
				checkScript(t, begin+"\n", first)
			}
		}
		if got := impl.RunScript(begin); !strings.HasPrefix(output, got) {
			t.Errorf("the output %.300q of %.300q does not begin with that of its first %d lines, %.300q", output, script, i, got)
		}
	}
}

// TestDeskExampleByModel checks the definition itself with the example, and the beginnings of the example.
func TestDeskExampleByModel(t *testing.T) {
	lines := strings.Split(exampleScript, "\n")
	if got := strings.Join(modelOutputs(lines), ""); got != exampleOutput {
		t.Errorf("by the definition the output is %q", got)
	}
	for i := range lines {
		got := impl.RunScript(strings.Join(lines[:i], "\n"))
		if !strings.HasPrefix(exampleOutput, got) || got != strings.Join(modelOutputs(lines[:i]), "") {
			t.Errorf("the first %d lines have the output %q", i, got)
		}
	}
	for _, byte := range []string{"\n", " ", "x"} {
		for i := range len(exampleScript) + 1 {
			// The last line may be another one, so only those before it are compared.
			script := exampleScript[:i] + byte
			whole := strings.Count(exampleScript[:i], "\n")
			want := strings.Join(modelOutputs(strings.Split(script, "\n")), "")
			if got := impl.RunScript(script); got != want || !strings.HasPrefix(got, strings.Join(modelOutputs(lines[:whole]), "")) {
				t.Errorf("RunScript(%q) returns %q, not %q", script, got, want)
			}
		}
	}
}

// deskWords are the words of the table.
var deskWords = []string{"system", "coercion", "function", "unlink", "drop", "reduce", "goodpart", "keep", "coherent", "regular", "consistent", "good", "doubt", "gap", "clash", "ways", "above", "joins", "coerce", "resolve", "cost", "needed", "make", "at", "run", "steps", "kinds", "ambiguous", "all", "values", "cheapest", "compare"}

// someTerm returns the text of a pseudo-random term of a system.
func someTerm(source *rand.Rand, s impl.System) string {
	if source.Intn(3) > 0 {
		// One that has an explicit term.
		_, made := someMade(source, s, source.Intn(len(s.Sizes)), 2+source.Intn(9))
		return made.term
	}
	n := someTree(source, 3+source.Intn(20))
	fit(source, s, &n)
	return n.text()
}

// otherSystem returns a system that is the same as another one but for the results of a function, or any other one.
func otherSystem(source *rand.Rand, s impl.System) impl.System {
	if len(s.Functions) == 0 || source.Intn(4) == 0 {
		other := someSystem(source, source.Intn(9), 1+source.Intn(3))
		other.Functions = other.Functions[:source.Intn(len(other.Functions)+1)]
		return other
	}
	other, _ := impl.ParseSystem(impl.FormatSystem(s))
	f := other.Functions[source.Intn(len(s.Functions))]
	for i := range f.Table {
		f.Table[i] = source.Intn(s.Sizes[f.Result])
	}
	return other
}

// someRest returns a pseudo-random rest for a word on a desk, that mostly is as the table shows.
func someRest(source *rand.Rand, m *deskModel, word string) string {
	s := m.s
	kind := func() string { return strconv.Itoa(source.Intn(len(s.Sizes) + source.Intn(20)/19)) }
	switch word {
	case "system":
		return impl.FormatSystem(otherSystem(source, s))
	case "compare":
		return someTerm(source, []impl.System{m.s, m.k}[source.Intn(2)])
	case "coercion":
		c := someLink(source, s.Types)
		return strconv.Itoa(c.From) + ">" + strconv.Itoa(c.To) + ":" + joined(c.Map, " ")
	case "function":
		return functionText(someFunction(source, s.Types))
	case "unlink":
		return strconv.Itoa(source.Intn(len(s.Coercions) + 1))
	case "drop", "needed":
		return strconv.Itoa(source.Intn(len(s.Functions) + 1))
	case "above":
		return kind()
	case "ways", "joins":
		return kind() + " " + kind()
	case "coerce":
		return kind() + " " + kind() + " " + strconv.Itoa(source.Intn(3))
	case "resolve", "cost":
		rest := string(rune('f' + source.Intn(3)))
		if len(s.Functions) > 0 {
			rest = s.Functions[source.Intn(len(s.Functions))].Name
		}
		for range source.Intn(3) {
			rest += " " + kind()
		}
		return rest
	case "at", "all", "values", "cheapest":
		return kind() + " " + someTerm(source, s)
	}
	return someTerm(source, s)
}

// someEdit returns a text with a sign put in, taken out or replaced, or with one of the given texts in it.
func someEdit(source *rand.Rand, text string) string {
	const signs = " 0123456789:;>/,()#@fghk-+x\t\x00\xff"
	i := source.Intn(len(text) + 1)
	sign := string(signs[source.Intn(len(signs))])
	switch source.Intn(4) {
	case 0:
		return text[:i] + sign + text[i:]
	case 1:
		return text[:i] + text[min(i+1, len(text)):]
	case 2:
		return text[:i] + sign + text[min(i+1, len(text)):]
	}
	words := strings.Split(text, " ")
	words[source.Intn(len(words))] = wrongNumbers[source.Intn(len(wrongNumbers))]
	return strings.ReplaceAll(strings.Join(words, " "), "\n", "")
}

// someLine returns a pseudo-random line for a desk.
func someLine(source *rand.Rand, m *deskModel) string {
	word := deskWords[source.Intn(len(deskWords))]
	// Terms are told most often, and compared after changes.
	if source.Intn(3) == 0 {
		word = []string{"make", "at", "run", "steps", "all", "values", "function", "compare", "compare", "compare", "system", "resolve"}[source.Intn(12)]
	}
	line := word
	isAlone := slices.Contains([]string{"reduce", "goodpart", "keep", "coherent", "regular", "consistent", "good", "doubt", "gap", "clash"}, word)
	if !isAlone && (word != "system" || source.Intn(2) == 0) {
		line += " " + someRest(source, m, word)
	}
	switch source.Intn(30) {
	case 0:
		return ""
	case 1, 2, 3:
		return someEdit(source, line)
	case 4:
		return word
	case 5:
		return word + " "
	case 6:
		return word + " " + someRest(source, m, deskWords[source.Intn(len(deskWords))])
	}
	return line
}

// kindOfOutput tells which kind of output a line has.
func kindOfOutput(output string) string {
	output = strings.TrimSuffix(output, "\n")
	switch {
	case slices.Contains([]string{"no", "what", "full", "none", "many", "unknown", "-", "ok", "true", "false", "same", "changed", "gained", "lost"}, output):
		return output
	case strings.Contains(output, "\n"):
		return "lines"
	}
	return "text"
}

// TestDeskManyScripts compares the outputs of pseudo-random scripts of a fixed seed with the definition.
func TestDeskManyScripts(t *testing.T) {
	source := rand.New(rand.NewSource(122))
	seen := map[string]int{}
	for n := range 250 {
		m := newModel()
		var lines []string
		if n%3 > 0 {
			lines = append(lines, "system "+impl.FormatSystem(someSystem(source, 2+source.Intn(7), 1+source.Intn(2))), "keep")
			m.line(lines[0])
			m.line(lines[1])
		}
		for range source.Intn(110) {
			line := someLine(source, m)
			lines = append(lines, line)
			if line == "" {
				continue
			}
			word, _, _ := strings.Cut(line, " ")
			output := m.line(line)
			seen[kindOfOutput(output)]++
			if slices.Contains(deskWords, word) {
				seen[word+" told "+strconv.FormatBool(output != "no" && output != "what")]++
			}
		}
		checkByModel(t, source, lines)
		if t.Failed() {
			t.FailNow()
		}
	}
	checkSeen(t, seen, 15, "no", "what", "none", "many", "unknown", "-", "ok", "true", "false", "same", "changed", "gained", "lost", "lines", "text")
	for _, word := range deskWords {
		checkSeen(t, seen, 10, word+" told true", word+" told false")
	}
}

// checkOutput checks that the output of any script ends each line, and keeps within the limits.
func checkOutput(t *testing.T, script string) string {
	t.Helper()
	output := impl.RunScript(script)
	// Before its last line the output is as long as it may be, and this tells as many explicit terms as can be.
	if limit := impl.MaxOutput + impl.MaxMades*(impl.MaxMade+1) + len("full\n"); len(output) > limit {
		t.Errorf("RunScript(%.300q) returns %d bytes", script, len(output))
	}
	if output != "" && !strings.HasSuffix(output, "\n") || strings.Contains(output, "\n\n") || strings.HasPrefix(output, "\n") {
		t.Errorf("RunScript(%.300q) returns %.300q", script, output)
	}
	if isEmpty := strings.Trim(script, "\n") == "" && len(script) <= impl.MaxScript; isEmpty != (output == "") {
		t.Errorf("RunScript(%.300q) returns %.300q", script, output)
	}
	return output
}

// TestDeskManyBytes runs pseudo-random bytes of a fixed seed.
func TestDeskManyBytes(t *testing.T) {
	source := rand.New(rand.NewSource(123))
	for n := range 3000 {
		bytes := make([]byte, source.Intn(300))
		source.Read(bytes)
		if n%2 > 0 {
			for i, b := range bytes {
				bytes[i] = " \n\n0123456789:;>/,()fghksystemakeruncoercion"[int(b)%44]
			}
		}
		checkOutput(t, string(bytes))
		checkByModel(t, source, strings.Split(string(bytes), "\n"))
		if t.Failed() {
			t.FailNow()
		}
	}
	for _, length := range []int{1000, 19999, 20000, 20001, 30000} {
		bytes := make([]byte, length)
		source.Read(bytes)
		checkOutput(t, string(bytes))
		checkByModel(t, source, strings.Split(string(bytes), "\n"))
	}
}

// TestDeskManyWords runs pseudo-random lines of the words of the table, of a fixed seed.
func TestDeskManyWords(t *testing.T) {
	source := rand.New(rand.NewSource(124))
	pieces := append([]string{" ", "", "0", "1", "-1", "0 1", "0:1", "f(0:1)", "f 0", "2 2;0>1:0 1/f(0)0:1 0", "f(0)0:1 0", "0>1:0 1", "1 f(0:1)", "x"}, deskWords...)
	for range 1500 {
		var lines []string
		for range source.Intn(120) {
			line := deskWords[source.Intn(len(deskWords))]
			for range source.Intn(4) {
				line += []string{" ", " ", " ", "", "  ", "\t"}[source.Intn(6)] + pieces[source.Intn(len(pieces))]
			}
			lines = append(lines, line)
		}
		checkOutput(t, strings.Join(lines, "\n"))
		checkByModel(t, source, lines)
		if t.Failed() {
			t.FailNow()
		}
	}
}

// TestDeskLargeOutputs runs scripts of lines with large outputs, that come to the limit after a few or after many lines.
func TestDeskLargeOutputs(t *testing.T) {
	source := rand.New(rand.NewSource(125))
	full := 0
	for range 60 {
		lines := []string{"system " + largeSystem}
		for range 20 + source.Intn(90) {
			line := []string{largeLine, "keep", "", "system", "make " + largeLine[len("all 1 "):], "all 1 f(f(0:0,0:0),0:0)"}[source.Intn(6)]
			lines = append(lines, line)
		}
		checkByModel(t, source, lines)
		if output := checkOutput(t, strings.Join(lines, "\n")); strings.HasSuffix(output, "full\n") && len(lines) <= impl.MaxLines {
			full++
		}
	}
	if full < 10 {
		t.Errorf("%d outputs are too long before the hundredth line: too few", full)
	}
}

func TestDeskKeepsMemory(t *testing.T) {
	numbers := [][]int{spare(1, 0, -3), spare(20, 30), spare(4, 100)}
	name := strings.Clone("some name")
	script := strings.Clone(exampleScript)
	texts := [][]*byte{byteCells(name), byteCells(script)}
	for range 2 {
		for _, text := range []string{
			impl.FormatNumbers(numbers[0]),
			impl.FormatDoubt(impl.Doubt{From: 1, To: 2, Value: 3, First: numbers[0], Second: numbers[1]}),
			impl.FormatGap(impl.Gap{Name: name, Kinds: numbers[2]}),
			impl.FormatGap(impl.Gap{Name: name}),
			impl.FormatClash(impl.Clash{First: 1, Second: 2, Values: numbers[1]}),
			impl.RunScript(script),
			impl.RunScript(script[:len(script)/2]),
			impl.RunScript("resolve " + name),
			impl.RunScript("make 0:0"),
		} {
			texts = append(texts, byteCells(text))
		}
	}
	checkApart(t, texts...)
	if name != "some name" || script != exampleScript {
		t.Errorf("arguments have become %q and %q", name, script)
	}
	for i, want := range [][]int{{1, 0, -3, -7, -7, -7}, {20, 30, -7, -7, -7}, {4, 100, -7, -7, -7}} {
		if got := numbers[i][:len(want)]; !slices.Equal(got, want) {
			t.Errorf("numbers have become %v", got)
		}
	}
}

// TestDeskKeepsNoState runs scripts in any order, none of which finds the system or the kept one of another one.
func TestDeskKeepsNoState(t *testing.T) {
	for range 3 {
		checkScript(t, exampleScript, exampleOutput)
		checkScript(t, "system\ncompare 0:0\ncompare f()", "1\nsame\nnone\n")
		checkScript(t, "system 2/f()0:1\nkeep\nrun f()", "2/f()0:1\nok\n0:1\n")
		checkScript(t, "system\ncompare f()\nsystem 2/f()0:1\ncompare f()", "1\nnone\n2/f()0:1\ngained\n")
		checkScript(t, "function f()0:0\nfunction f()0:0", "1/f()0:0\nno\n")
	}
}

// TestDeskTogether runs scripts at the same time; it is for the race detector too.
func TestDeskTogether(t *testing.T) {
	done := make(chan bool)
	for range 8 {
		go func() {
			done <- impl.RunScript(exampleScript) == exampleOutput && impl.RunScript("system\nkeep\ncompare 0:0") == "1\nok\nsame\n"
		}()
	}
	for range 8 {
		if !<-done {
			t.Error("outputs differ")
		}
	}
}

// TestDeskLeavesNoGoroutines runs a script again and again, after which no goroutine of it is left.
func TestDeskLeavesNoGoroutines(t *testing.T) {
	before := runtime.NumGoroutine()
	for range 20 {
		impl.RunScript(exampleScript)
	}
	checkGoroutines(t, before)
}
