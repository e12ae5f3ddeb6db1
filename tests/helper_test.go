package tests

import (
	"iter"
	"runtime"
	"slices"
	"testing"
	"unsafe"

	"loop.example/overloads/impl"
)

// most and least are numbers far outside of all limits.
const (
	most  = int(^uint(0) >> 1)
	least = -most - 1
)

// link returns a coercion.
func link(from int, to int, images ...int) impl.Coercion {
	return impl.Coercion{From: from, To: to, Map: images}
}

// function returns a function.
func function(name string, args []int, result int, table ...int) impl.Function {
	return impl.Function{Name: name, Args: args, Result: result, Table: table}
}

// typesOf returns the types of a text that must be valid.
func typesOf(t *testing.T, text string) impl.Types {
	t.Helper()
	types, ok := impl.ParseTypes(text)
	if !ok {
		t.Fatalf("ParseTypes(%q) returns false", text)
	}
	return types
}

// systemOf returns the system of a text that must be valid.
func systemOf(t *testing.T, text string) impl.System {
	t.Helper()
	s, ok := impl.ParseSystem(text)
	if !ok {
		t.Fatalf("ParseSystem(%q) returns false", text)
	}
	return s
}

// isZero reports whether types are the zero value.
func isZero(types impl.Types) bool {
	return len(types.Sizes) == 0 && len(types.Coercions) == 0
}

// isZeroSystem reports whether a system is the zero value.
func isZeroSystem(s impl.System) bool {
	return isZero(s.Types) && len(s.Functions) == 0
}

// edits yields the beginnings of a text, and the text with each byte in each place, beside what is there and instead of
// it, and without what is there.
func edits(text string) iter.Seq[string] {
	return func(yield func(string) bool) {
		for i := range len(text) + 1 {
			list := []string{text[:i]}
			for sign := range 256 {
				list = append(list, text[:i]+string([]byte{byte(sign)})+text[i:])
				if i < len(text) {
					list = append(list, text[:i]+string([]byte{byte(sign)})+text[i+1:])
				}
			}
			if i < len(text) {
				list = append(list, text[:i]+text[i+1:])
			}
			for _, edit := range list {
				if !yield(edit) {
					return
				}
			}
		}
	}
}

// spare returns numbers in a slice that has unused capacity, filled with a mark.
func spare(list ...int) []int {
	full := append(slices.Clone(list), -7, -7, -7)
	return full[:len(list)]
}

// spareTypes returns types of the same text, of which each slice has unused capacity that is filled.
func spareTypes(types impl.Types) impl.Types {
	c := impl.Types{Sizes: spare(types.Sizes...)}
	for _, coercion := range types.Coercions {
		coercion.Map = spare(coercion.Map...)
		c.Coercions = append(c.Coercions, coercion)
	}
	n := len(c.Coercions)
	c.Coercions = append(c.Coercions, link(-7, -7, spare(-7)...), link(-7, -7, spare(-7)...))[:n]
	return c
}

// cellsOf returns the places of all elements of a list, unused capacity included.
func cellsOf[T any](list []T) []*T {
	var cells []*T
	full := list[:cap(list)]
	for i := range full {
		cells = append(cells, &full[i])
	}
	return cells
}

// numberCells returns the places of all numbers of a list, unused capacity included.
func numberCells(list []int) []*int {
	return cellsOf(list)
}

// byteCells returns the places of all bytes of a text.
func byteCells(text string) []*byte {
	return cellsOf(unsafe.Slice(unsafe.StringData(text), len(text)))
}

// typesCells returns the places of all numbers of types, unused capacity included.
func typesCells(types impl.Types) []*int {
	cells := numberCells(types.Sizes)
	full := types.Coercions[:cap(types.Coercions)]
	for i := range full {
		cells = append(cells, &full[i].From, &full[i].To)
		cells = append(cells, numberCells(full[i].Map)...)
	}
	return cells
}

// spareSystem returns a system of the same text, of which each slice has unused capacity that is filled.
func spareSystem(s impl.System) impl.System {
	c := impl.System{Types: spareTypes(s.Types)}
	for _, f := range s.Functions {
		f.Args, f.Table = spare(f.Args...), spare(f.Table...)
		c.Functions = append(c.Functions, f)
	}
	n := len(c.Functions)
	c.Functions = append(c.Functions, function("-", spare(-7), -7, spare(-7)...), function("-", spare(-7), -7, spare(-7)...))[:n]
	return c
}

// systemCells returns the places of all numbers of a system, unused capacity included.
func systemCells(s impl.System) []*int {
	cells := typesCells(s.Types)
	full := s.Functions[:cap(s.Functions)]
	for i := range full {
		cells = append(cells, &full[i].Result)
		cells = append(cells, numberCells(full[i].Args)...)
		cells = append(cells, numberCells(full[i].Table)...)
	}
	return cells
}

// namesAt returns the names of the functions of a system, unused capacity included.
func namesAt(s impl.System) []string {
	var list []string
	for _, f := range s.Functions[:cap(s.Functions)] {
		list = append(list, f.Name)
	}
	return list
}

// overwriteSystem overwrites all that a system has, unused capacity included.
func overwriteSystem(s impl.System) {
	for _, cell := range systemCells(s) {
		*cell = -7
	}
	full := s.Functions[:cap(s.Functions)]
	for i := range full {
		full[i].Name = "-"
	}
}

// numbersAt returns what stands at places.
func numbersAt(cells []*int) []int {
	var list []int
	for _, cell := range cells {
		list = append(list, *cell)
	}
	return list
}

// checkApart reports a place that occurs twice, in one list or in two.
func checkApart[T any](t *testing.T, lists ...[]*T) {
	t.Helper()
	owner := map[*T]int{}
	for i, cells := range lists {
		for _, cell := range cells {
			if k, ok := owner[cell]; ok {
				t.Errorf("memory of %d is shared with %d", i, k)
				return
			}
			owner[cell] = i
		}
	}
}

// checkSeen reports kinds of which fewer were seen than there must be for a test to tell anything.
func checkSeen(t *testing.T, seen map[string]int, enough int, kinds ...string) {
	t.Helper()
	for _, kind := range kinds {
		t.Log(kind, seen[kind])
		if seen[kind] < enough {
			t.Errorf("%s: %d are too few", kind, seen[kind])
		}
	}
}

// checkGoroutines reports that there are more goroutines than before some calls, some while after them.
func checkGoroutines(t *testing.T, before int) {
	t.Helper()
	// The last ones may not have ended yet, though their values have come.
	for range 1000000 {
		if runtime.NumGoroutine() <= before {
			return
		}
		runtime.Gosched()
	}
	t.Errorf("there were %d goroutines and are %d", before, runtime.NumGoroutine())
}
