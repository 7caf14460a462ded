// Package lits is layer 1: see shared/doc/01-lits.md.
package lits

import (
	"cmp"
	"iter"
	"slices"
	"strconv"
	"strings"

	"salvor/api"
)

// MaxVar is the greatest variable.
const MaxVar = 1 << 20

// ErrLit says that something is no literal.
const ErrLit api.Errno = 10

// Lit is a literal: a variable, or - a variable, for its negation.
type Lit int

// Right reports whether a number is a literal.
func Right(l Lit) bool { return l != 0 && -MaxVar <= l && l <= MaxVar }

// Of returns the literal of a variable, negated or not.
func Of(v int, negated bool) (Lit, api.Errno) {
	switch {
	case v < 1 || v > MaxVar:
		return 0, ErrLit
	case negated:
		return Lit(-v), api.OK
	}
	return Lit(v), api.OK
}

// Var returns the variable of a literal, and 0 of what is none.
func Var(l Lit) int {
	switch {
	case !Right(l):
		return 0
	case l < 0:
		return int(-l)
	}
	return int(l)
}

// Negated reports whether a literal is a negation.
func Negated(l Lit) bool { return l < 0 && Right(l) }

// Neg returns the other literal of a literal's variable, and 0 of what is no literal.
func Neg(l Lit) Lit {
	if !Right(l) {
		return 0
	}
	return -l
}

// Index returns the number of a literal.
func Index(l Lit) (int, api.Errno) {
	switch {
	case !Right(l):
		return 0, ErrLit
	case l < 0:
		return 2*int(-l) - 1, api.OK
	}
	return 2*int(l) - 2, api.OK
}

// At returns the literal with a number.
func At(i int) (Lit, api.Errno) {
	// Division rounds towards 0, so -1 would come to the variable 1.
	if i < 0 {
		return 0, ErrLit
	}
	return Of(i/2+1, i%2 == 1)
}

// Compare compares two literals by their numbers; what is no literal comes before all that are.
func Compare(a, b Lit) int {
	i, e := Index(a)
	j, f := Index(b)
	switch {
	case e != api.OK && f != api.OK:
		return cmp.Compare(a, b)
	case e != api.OK:
		return -1
	case f != api.OK:
		return 1
	}
	return cmp.Compare(i, j)
}

// Text returns the text of a literal, and an empty one of what is none.
func Text(l Lit) string {
	if !Right(l) {
		return ""
	}
	return strconv.Itoa(int(l))
}

// Read returns the literal with a text.
func Read(s string) (Lit, api.Errno) {
	digits, negated := strings.CutPrefix(s, "-")
	v := 0
reading:
	for i := range len(digits) {
		d := digits[i]
		switch {
		case d < '0' || d > '9', d == '0' && i == 0:
			v = 0
			break reading
		case v > MaxVar:
			// More digits make it no smaller, but would make it overflow.
			break reading
		}
		v = 10*v + int(d-'0')
	}
	return Of(v, negated)
}

// Greatest returns the greatest variable of some literals, and 0 if there are none.
func Greatest(l []Lit) int {
	greatest := 0
	for v := range variables(l) {
		greatest = max(greatest, v)
	}
	return greatest
}

// Vars returns the variables of some literals, each once, in increasing order.
func Vars(l []Lit) []int {
	var vars []int
	isMet := meeting()
	for v := range variables(l) {
		if !isMet(v) {
			vars = append(vars, v)
		}
	}
	slices.Sort(vars)
	return vars
}

// variables yields the variable of each literal of a list, and passes over what is none.
func variables(l []Lit) iter.Seq[int] {
	return func(yield func(int) bool) {
		for _, x := range l {
			if v := Var(x); v != 0 && !yield(v) {
				return
			}
		}
	}
}

// meeting returns a function that reports whether it was asked of a variable before.
func meeting() func(v int) bool {
	met := map[int]bool{}
	return func(v int) bool {
		before := met[v]
		met[v] = true
		return before
	}
}
