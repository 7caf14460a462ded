package lits

import (
	"math"
	"slices"
	"strings"
	"testing"

	"salvor/api"
)

// facts are a literal, and all that is said of it.
type facts struct {
	l       Lit
	v       int
	negated bool
	neg     Lit
	index   int
	text    string
}

// ordinary are literals, in their order.
func ordinary() []facts {
	return []facts{
		{1, 1, false, -1, 0, "1"},
		{-1, 1, true, 1, 1, "-1"},
		{2, 2, false, -2, 2, "2"},
		{-2, 2, true, 2, 3, "-2"},
		{3, 3, false, -3, 4, "3"},
		{-3, 3, true, 3, 5, "-3"},
		{10, 10, false, -10, 18, "10"},
		{-10, 10, true, 10, 19, "-10"},
		{907, 907, false, -907, 1812, "907"},
		{-1000000, 1000000, true, 1000000, 1999999, "-1000000"},
		{MaxVar - 1, 1048575, false, 1 - MaxVar, 2097148, "1048575"},
		{MaxVar, 1048576, false, -MaxVar, 2097150, "1048576"},
		{-MaxVar, 1048576, true, MaxVar, 2097151, "-1048576"},
	}
}

// wrong are numbers that are no literals, in increasing order.
func wrong() []Lit {
	return []Lit{math.MinInt, math.MinInt + 1, -1 << 32, -MaxVar - 1, 0, MaxVar + 1, 1 << 21, 1<<32 + 1, math.MaxInt}
}

func TestConstants(t *testing.T) {
	if MaxVar != 1048576 || ErrLit != 10 {
		t.Error(MaxVar, ErrLit)
	}
}

// P1.1

func TestPartsOfLiterals(t *testing.T) {
	for _, c := range ordinary() {
		if !Right(c.l) || Var(c.l) != c.v || Negated(c.l) != c.negated || Neg(c.l) != c.neg {
			t.Error(c.l, Right(c.l), Var(c.l), Negated(c.l), Neg(c.l))
		}
	}
}

func TestPartsOfWrongNumbers(t *testing.T) {
	for _, l := range wrong() {
		if Right(l) || Var(l) != 0 || Negated(l) || Neg(l) != 0 {
			t.Error(l, Right(l), Var(l), Negated(l), Neg(l))
		}
	}
}

func TestOf(t *testing.T) {
	for _, c := range ordinary() {
		if l, e := Of(c.v, c.negated); l != c.l || e != api.OK {
			t.Error(c.v, c.negated, l, e)
		}
	}
	for _, v := range []int{0, -1, -MaxVar, MaxVar + 1, 1<<32 + 1, math.MaxInt, math.MinInt} {
		for _, negated := range []bool{false, true} {
			if l, e := Of(v, negated); l != 0 || e != ErrLit {
				t.Error(v, negated, l, e)
			}
		}
	}
}

// P1.2

func TestNumbersOfLiterals(t *testing.T) {
	for _, c := range ordinary() {
		if i, e := Index(c.l); i != c.index || e != api.OK {
			t.Error(c.l, i, e)
		}
		if l, e := At(c.index); l != c.l || e != api.OK {
			t.Error(c.index, l, e)
		}
	}
}

func TestNumbersOfNoLiterals(t *testing.T) {
	for _, l := range wrong() {
		if i, e := Index(l); i != 0 || e != ErrLit {
			t.Error(l, i, e)
		}
	}
	for _, i := range []int{-1, -2, -3, 2 * MaxVar, 2*MaxVar + 1, 1 << 33, math.MaxInt, math.MinInt} {
		if l, e := At(i); l != 0 || e != ErrLit {
			t.Error(i, l, e)
		}
	}
}

func TestCompareIsTheOrder(t *testing.T) {
	all := wrong()
	for _, c := range ordinary() {
		all = append(all, c.l)
	}
	for i, a := range all {
		for j, b := range all {
			want := 0
			if i < j {
				want = -1
			} else if i > j {
				want = 1
			}
			if got := Compare(a, b); got != want {
				t.Error(a, b, got, want)
			}
		}
	}
}

func TestCompareExamples(t *testing.T) {
	for _, c := range []struct {
		a, b Lit
		want int
	}{{3, -3, -1}, {-2, 3, -1}, {3, -2, 1}, {-3, -3, 0}, {0, -MaxVar, -1}, {1, MaxVar + 1, 1}, {MaxVar + 1, 0, 1}} {
		if got := Compare(c.a, c.b); got != c.want {
			t.Error(c.a, c.b, got)
		}
	}
}

// P1.3

func TestTextsOfLiterals(t *testing.T) {
	for _, c := range ordinary() {
		if s := Text(c.l); s != c.text {
			t.Error(c.l, s)
		}
		if l, e := Read(c.text); l != c.l || e != api.OK {
			t.Error(c.text, l, e)
		}
	}
	for _, l := range wrong() {
		if s := Text(l); s != "" {
			t.Error(l, s)
		}
	}
}

func TestTextsOfNoLiterals(t *testing.T) {
	for _, s := range []string{
		"", "-", "--", "--1", "-+1", "+1", "+3", "1-", "1-2",
		"0", "-0", "00", "01", "03", "-01", "-03", "0001048576", "-000",
		" 1", "1 ", "- 1", "1 2", "1\n", "\t1", "1\x00", "\x001", "1\xff",
		"a", "1a", "a1", "0x1", "1e3", "1.0", "1_000", "1,2", "/1", "1/", ":", "1:",
		"\u0661", "\uff11", "\u22121", // digits and a minus of other scripts
		"1048577", "-1048577", "1048580", "1111111", "9999999", "10485760", "2097153",
		"4294967297", "-4294967297", "9223372036854775807", "-9223372036854775808",
		"18446744073709551615", "18446744073709551617", "-18446744073709551617", // -1, 1, -1, if bits are lost
		"99999999999999999999999999999999999999999",
	} {
		if l, e := Read(s); l != 0 || e != ErrLit {
			t.Errorf("%q: %d, %d", s, l, e)
		}
	}
}

func TestLongTexts(t *testing.T) {
	const long = 1 << 22
	for _, s := range []string{
		strings.Repeat("0", long), "1" + strings.Repeat("0", long), strings.Repeat("0", long) + "1",
		strings.Repeat("9", long), "-" + strings.Repeat("7", long), strings.Repeat("-", long) + "1",
	} {
		if l, e := Read(s); l != 0 || e != ErrLit {
			t.Error(s[:2], l, e)
		}
	}
}

// P1.4

func TestVariablesOfLists(t *testing.T) {
	for _, c := range []struct {
		l        []Lit
		vars     []int
		greatest int
	}{
		{nil, nil, 0},
		{[]Lit{}, nil, 0},
		{[]Lit{3, -1, -3}, []int{1, 3}, 3},
		{[]Lit{5}, []int{5}, 5},
		{[]Lit{-5}, []int{5}, 5},
		{[]Lit{-9, 2}, []int{2, 9}, 9},
		{[]Lit{1, 2, 3, 4}, []int{1, 2, 3, 4}, 4},
		{[]Lit{4, -3, 2, -1}, []int{1, 2, 3, 4}, 4},
		{[]Lit{7, 7, -7, 7}, []int{7}, 7},
		{[]Lit{100, 20, 3, 100, -20}, []int{3, 20, 100}, 100},
		{[]Lit{MaxVar, -MaxVar, 1}, []int{1, MaxVar}, MaxVar},
		{wrong(), nil, 0},
		{[]Lit{0}, nil, 0},
		{[]Lit{0, 4, MaxVar + 1, -2, math.MinInt, 4}, []int{2, 4}, 4},
		{[]Lit{-1, math.MaxInt, 0, 1}, []int{1}, 1},
	} {
		if got := Vars(c.l); !slices.Equal(got, c.vars) {
			t.Error(c.l, got)
		}
		if got := Greatest(c.l); got != c.greatest {
			t.Error(c.l, got)
		}
	}
}

func TestVariablesOfAllLiterals(t *testing.T) {
	var l []Lit
	for v := MaxVar; v >= 1; v-- {
		l = append(l, Lit(-v), Lit(v))
	}
	vars := Vars(l)
	if len(vars) != MaxVar || Greatest(l) != MaxVar {
		t.Fatal(len(vars), Greatest(l))
	}
	for i, v := range vars {
		if v != i+1 {
			t.Fatal(i, v)
		}
	}
}

func TestListsAreKept(t *testing.T) {
	room := []Lit{8, -2, 0, 5, -8, 44, 45}
	before := slices.Clone(room)
	l := room[:5]
	first := Vars(l)
	Greatest(l)
	if !slices.Equal(room, before) {
		t.Error("the list, or what is behind it, was changed:", room)
	}
	for i := range first {
		first[i] = -1
	}
	if second := Vars(l); !slices.Equal(second, []int{2, 5, 8}) || !slices.Equal(room, before) {
		t.Error("a result shares memory:", second, room)
	}
}

// P1.5

func TestConsequencesForEachVariable(t *testing.T) {
	for v := 1; v <= MaxVar; v++ {
		l := Lit(v)
		i, e := Index(l)
		j, f := Index(-l)
		if i != 2*(v-1) || j != i+1 || e != api.OK || f != api.OK {
			t.Fatal(v, i, j, e, f)
		}
		if Neg(l) != -l || Neg(-l) != l || Neg(Neg(l)) != l || Neg(Neg(-l)) != -l {
			t.Fatal(v, Neg(l), Neg(-l))
		}
		if Compare(l, -l) != -1 || Compare(-l, l) != 1 || v < MaxVar && Compare(-l, l+1) != -1 {
			t.Fatal(v, Compare(l, -l), Compare(-l, l), Compare(-l, l+1))
		}
		for _, m := range []Lit{l, -l} {
			back, e := Read(Text(m))
			n, _ := Index(m)
			at, f := At(n)
			of, g := Of(Var(m), Negated(m))
			if back != m || at != m || of != m || e != api.OK || f != api.OK || g != api.OK {
				t.Fatal(m, back, at, of, e, f, g)
			}
		}
	}
}

func TestTextsAreOfOneLiteralAlone(t *testing.T) {
	// All short texts of the bytes that matter: those that are read are the texts of what they are read as.
	const bytes = "-+0139 "
	var read int
	var visit func(s string)
	visit = func(s string) {
		l, e := Read(s)
		if e == api.OK {
			read++
		}
		if (e == api.OK) != (Right(l) && Text(l) == s) || e != api.OK && e != ErrLit {
			t.Errorf("%q: %d, %d", s, l, e)
		}
		for i := 0; i < len(bytes) && len(s) < 5; i++ {
			visit(s + bytes[i:i+1])
		}
	}
	visit("")
	// Of 3 digits that may come first, and 4 behind them: 3 + 12 + 48 + 192 with a -, and 768 more without.
	if want := 2*(3+12+48+192) + 768; read != want {
		t.Error(read, want)
	}
}
