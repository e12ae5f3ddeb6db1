package tests

import (
	"slices"
	"testing"

	"loop.example/overloads/impl"
)

// most and least are numbers far outside of all limits.
const (
	most  = int(^uint(0) >> 1)
	least = -most - 1
)

// link returns a coercion.
func link(from int, to int, images ...int) impl.Coercion {
	return impl.Coercion{From: from, To: to, Map: images}
}

// typesOf returns the types of a text that must be valid.
func typesOf(t *testing.T, text string) impl.Types {
	t.Helper()
	types, ok := impl.ParseTypes(text)
	if !ok {
		t.Fatalf("ParseTypes(%q) returns false", text)
	}
	return types
}

// isZero reports whether types are the zero value.
func isZero(types impl.Types) bool {
	return len(types.Sizes) == 0 && len(types.Coercions) == 0
}

// spare returns numbers in a slice that has unused capacity, filled with a mark.
func spare(list ...int) []int {
	full := append(slices.Clone(list), -7, -7, -7)
	return full[:len(list)]
}

// spareTypes returns types of the same text, of which each slice has unused capacity that is filled.
func spareTypes(types impl.Types) impl.Types {
	c := impl.Types{Sizes: spare(types.Sizes...)}
	for _, coercion := range types.Coercions {
		coercion.Map = spare(coercion.Map...)
		c.Coercions = append(c.Coercions, coercion)
	}
	n := len(c.Coercions)
	c.Coercions = append(c.Coercions, link(-7, -7, spare(-7)...), link(-7, -7, spare(-7)...))[:n]
	return c
}

// numberCells returns the places of all numbers of a list, unused capacity included.
func numberCells(list []int) []*int {
	var cells []*int
	full := list[:cap(list)]
	for i := range full {
		cells = append(cells, &full[i])
	}
	return cells
}

// typesCells returns the places of all numbers of types, unused capacity included.
func typesCells(types impl.Types) []*int {
	cells := numberCells(types.Sizes)
	full := types.Coercions[:cap(types.Coercions)]
	for i := range full {
		cells = append(cells, &full[i].From, &full[i].To)
		cells = append(cells, numberCells(full[i].Map)...)
	}
	return cells
}

// numbersAt returns what stands at places.
func numbersAt(cells []*int) []int {
	var list []int
	for _, cell := range cells {
		list = append(list, *cell)
	}
	return list
}

// checkApart reports a place that occurs twice, in one list or in two.
func checkApart(t *testing.T, lists ...[]*int) {
	t.Helper()
	owner := map[*int]int{}
	for i, cells := range lists {
		for _, cell := range cells {
			if k, ok := owner[cell]; ok {
				t.Errorf("memory of %d is shared with %d", i, k)
				return
			}
			owner[cell] = i
		}
	}
}
