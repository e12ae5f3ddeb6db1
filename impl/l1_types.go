package impl

import (
	"errors"
	"slices"
	"strconv"
	"strings"
	"sync"
)

// Limits of types.
const (
	MaxTypes     = 5
	MaxValues    = 4
	MaxCoercions = 8
)

// A Coercion makes values of a type to values of a later one.
type Coercion struct {
	From int
	To   int
	Map  []int
}

// Types are the numbers of their values, and coercions between them.
type Types struct {
	Sizes     []int
	Coercions []Coercion
}

// errText is what a textReader panics with where a text does not go on as it should.
var errText = errors.New("text does not fit")

// TypesValid reports whether types are valid.
func TypesValid(t Types) bool {
	if !sizesValid(t.Sizes) || len(t.Coercions) > MaxCoercions {
		return false
	}
	for _, c := range t.Coercions {
		if !c.fits(t.Sizes) {
			return false
		}
	}
	return true
}

// HasValue reports whether a number is a value of a type.
func HasValue(t Types, kind int, value int) bool {
	return TypesValid(t) && isIndex(kind, len(t.Sizes)) && isIndex(value, t.Sizes[kind])
}

// ApplyCoercion returns the value that a coercion makes of one, -1 if there is none.
func ApplyCoercion(t Types, i int, value int) int {
	if !hasCoercion(t, i) {
		return -1
	}
	return t.Coercions[i].images().of(value)
}

// FormatTypes returns the text of types.
func FormatTypes(t Types) string {
	if !TypesValid(t) {
		return ""
	}
	var text strings.Builder
	text.WriteString(numbersText(t.Sizes))
	for _, c := range t.Coercions {
		text.WriteByte(';')
		text.WriteString(c.text())
	}
	return text.String()
}

// ParseTypes parses the text of types.
func ParseTypes(s string) (Types, bool) {
	// The reader panics where the text does not fit, before any result is set: what is returned then are zero values.
	defer func() { _ = recover() }()
	r := textReader{rest: s}
	t := r.types()
	r.end()
	if !TypesValid(t) {
		return Types{}, false
	}
	return t, true
}

// IsInjective reports whether a coercion makes different values different.
func IsInjective(t Types, i int) bool {
	if !hasCoercion(t, i) {
		return false
	}
	c := t.Coercions[i]
	images := c.images()
	var taken [MaxValues]bool
	for value := range t.Sizes[c.From] {
		image := images.of(value)
		if taken[image] {
			return false
		}
		taken[image] = true
	}
	return true
}

// CoercionsFrom returns the coercions that begin with a type.
func CoercionsFrom(t Types, kind int) []int {
	if !TypesValid(t) {
		return nil
	}
	var list []int
	for i, c := range t.Coercions {
		if c.From == kind {
			list = append(list, i)
		}
	}
	return list
}

// WithCoercion returns types with one coercion more.
func WithCoercion(t Types, c Coercion) (Types, bool) {
	if !TypesValid(t) {
		return Types{}, false
	}
	more := copyTypes(t)
	more.Coercions = append(more.Coercions, c.copied())
	if !TypesValid(more) {
		return Types{}, false
	}
	return more, true
}

// WithoutCoercion returns types without a coercion.
func WithoutCoercion(t Types, i int) (Types, bool) {
	if !hasCoercion(t, i) {
		return Types{}, false
	}
	fewer := copyTypes(t)
	fewer.Coercions = slices.Delete(fewer.Coercions, i, i+1)
	return fewer, true
}

func sizesValid(sizes []int) bool {
	if len(sizes) < 1 || len(sizes) > MaxTypes {
		return false
	}
	for _, size := range sizes {
		if size < 1 || size > MaxValues {
			return false
		}
	}
	return true
}

// isIndex reports whether an index refers to one of so many elements.
func isIndex(i int, length int) bool {
	return 0 <= i && i < length
}

// hasCoercion reports whether types are valid and have a coercion with an index.
func hasCoercion(t Types, i int) bool {
	return TypesValid(t) && isIndex(i, len(t.Coercions))
}

// fits reports whether a coercion leads from one of the types of valid sizes to a later one, for all values.
func (c Coercion) fits(sizes []int) bool {
	if !isIndex(c.From, len(sizes)) || !isIndex(c.To, len(sizes)) || c.To <= c.From {
		return false
	}
	if len(c.Map) != sizes[c.From] {
		return false
	}
	for _, value := range c.Map {
		if !isIndex(value, sizes[c.To]) {
			return false
		}
	}
	return true
}

// copied returns a coercion with a Map of its own.
func (c Coercion) copied() Coercion {
	c.Map = slices.Clone(c.Map)
	return c
}

// text returns a coercion as it stands behind `;` in the text of types.
func (c Coercion) text() string {
	return strconv.Itoa(c.From) + ">" + strconv.Itoa(c.To) + ":" + numbersText(c.Map)
}

// images returns the table in which the values that a coercion makes are looked up.
func (c Coercion) images() *imageTable {
	return &imageTable{source: c}
}

// An imageTable has what a coercion makes of each value that a type can have, and -1 of those that its type does not
// have. It is made once, at the first look, so that no look after that needs the coercion.
type imageTable struct {
	source Coercion
	once   sync.Once
	values [MaxValues]int
}

// of returns what the coercion makes of a value, -1 if this is none.
func (table *imageTable) of(value int) int {
	table.once.Do(table.fill)
	if !isIndex(value, len(table.values)) {
		return -1
	}
	return table.values[value]
}

func (table *imageTable) fill() {
	for i := range table.values {
		table.values[i] = -1
	}
	copy(table.values[:], table.source.Map)
}

func copyTypes(t Types) Types {
	c := Types{Sizes: slices.Clone(t.Sizes)}
	for _, coercion := range t.Coercions {
		c.Coercions = append(c.Coercions, coercion.copied())
	}
	return c
}

// numbersText returns numbers in decimal with single spaces between them.
func numbersText(list []int) string {
	words := make([]string, len(list))
	for i, number := range list {
		words[i] = strconv.Itoa(number)
	}
	return strings.Join(words, " ")
}

// A textReader reads a text from the left and panics with errText where it does not fit.
type textReader struct {
	rest string
}

// has reports whether a sign is next.
func (r *textReader) has(sign byte) bool {
	return r.rest != "" && r.rest[0] == sign
}

// take reads a sign.
func (r *textReader) take(sign byte) {
	if !r.has(sign) {
		panic(errText)
	}
	r.rest = r.rest[1:]
}

// end reads the end of the text.
func (r *textReader) end() {
	if r.rest != "" {
		panic(errText)
	}
}

// digit reads a number of one digit; no number in the text of valid types has more, as all limits are below 10.
func (r *textReader) digit() int {
	if r.rest == "" || r.rest[0] < '0' || r.rest[0] > '9' {
		panic(errText)
	}
	number := int(r.rest[0] - '0')
	r.rest = r.rest[1:]
	return number
}

// digits reads one or more numbers with single spaces between them.
func (r *textReader) digits() []int {
	list := []int{r.digit()}
	for r.has(' ') {
		r.take(' ')
		list = append(list, r.digit())
	}
	return list
}

// coercion reads a coercion as it stands behind `;` in the text of types.
func (r *textReader) coercion() Coercion {
	var c Coercion
	c.From = r.digit()
	r.take('>')
	c.To = r.digit()
	r.take(':')
	c.Map = r.digits()
	return c
}

// types reads the text of types, which need not be valid.
func (r *textReader) types() Types {
	t := Types{Sizes: r.digits()}
	for r.has(';') {
		r.take(';')
		t.Coercions = append(t.Coercions, r.coercion())
	}
	return t
}
