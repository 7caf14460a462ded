package clauses

import (
	"math"
	"math/bits"
	"slices"
	"testing"

	"salvor/api"
	"salvor/lits"
)

// from returns the clause of the variables from one to another one.
func from(first, last int) Clause {
	var c Clause
	for v := first; v <= last; v++ {
		c = append(c, lits.Lit(v))
	}
	return c
}

// reversed returns a clause whose literals are in the opposite order.
func reversed(c Clause) Clause {
	r := slices.Clone(c)
	slices.Reverse(r)
	return r
}

// noLits are numbers that are no literals.
func noLits() []lits.Lit {
	return []lits.Lit{0, lits.MaxVar + 1, -lits.MaxVar - 1, 1<<32 + 1, math.MaxInt, math.MinInt}
}

// noClauses are lists that are no clauses: too long ones, and ones with what is no literal, at each place.
func noClauses() []Clause {
	l := []Clause{
		from(1, MaxLits+1), slices.Repeat(Clause{1}, MaxLits+1), slices.Repeat(Clause{1, -1}, MaxLits),
		append(from(1, MaxLits-1), 0), append(Clause{0}, from(1, MaxLits-1)...), append(from(1, MaxLits), 0),
	}
	for _, n := range noLits() {
		l = append(l, Clause{n}, Clause{n, 1, 2}, Clause{1, n, 2}, Clause{1, 2, n}, Clause{1, -1, n}, Clause{n, n})
	}
	return l
}

// small are all lists of at most three literals of three variables.
func small() []Clause {
	all := []Clause{nil}
	for i := 0; len(all[i]) < 3; i++ {
		for v := lits.Lit(1); v <= 3; v++ {
			all = append(all, append(slices.Clone(all[i]), v), append(slices.Clone(all[i]), -v))
		}
	}
	return all
}

// set has a bit for each literal of a clause: the bit 2 * (v - 1) for a variable, and the next one for its negation.
type set uint

func setOf(c ...lits.Lit) set {
	var s set
	for _, l := range c {
		if l > 0 {
			s |= 1 << (2*l - 2)
		} else {
			s |= 1 << (-2*l - 1)
		}
	}
	return s
}

// list returns the literals of a set, in their order.
func (s set) list() Clause {
	var c Clause
	for v := lits.Lit(1); v <= 32; v++ {
		for _, l := range []lits.Lit{v, -v} {
			if s&setOf(l) != 0 {
				c = append(c, l)
			}
		}
	}
	return c
}

// compare compares sets as clauses are: by their sizes; otherwise the lowest bit that is in one of them alone tells.
func (s set) compare(t set) int {
	n, m := bits.OnesCount(uint(s)), bits.OnesCount(uint(t))
	low := (s ^ t) & -(s ^ t)
	switch {
	case s == t:
		return 0
	case n < m, n == m && s&low != 0:
		return -1
	}
	return 1
}

// negations returns the set of the negations of a set's literals, of which there are at most 32.
func (s set) negations() set {
	const variables = 0x55555555
	return s&variables<<1 | s>>1&variables
}

func TestConstants(t *testing.T) {
	if MaxLits != 4096 || ErrClause != 20 || ErrResolve != 21 {
		t.Error(MaxLits, ErrClause, ErrResolve)
	}
}

// P2.1

// forms are clauses, their normal forms, and whether they hold always.
func forms() []struct {
	c, norm Clause
	always  bool
} {
	return []struct {
		c, norm Clause
		always  bool
	}{
		{nil, nil, false},
		{Clause{}, nil, false},
		{Clause{1}, Clause{1}, false},
		{Clause{-1}, Clause{-1}, false},
		{Clause{3, -1, 3}, Clause{-1, 3}, false},
		{Clause{2, -2}, Clause{2, -2}, true},
		{Clause{-2, 2}, Clause{2, -2}, true},
		{Clause{-2, 5, 2, 5, 2}, Clause{2, -2, 5}, true},
		{Clause{7, 7, 7}, Clause{7}, false},
		{Clause{-7, -7}, Clause{-7}, false},
		{Clause{7, 7, -7, -7}, Clause{7, -7}, true},
		{Clause{1, 2, 3, -3}, Clause{1, 2, 3, -3}, true},
		{Clause{1, -1, 2, 3}, Clause{1, -1, 2, 3}, true},
		{Clause{-4, 9, 4, -1}, Clause{-1, 4, -4, 9}, true},
		{Clause{-1, 2}, Clause{-1, 2}, false},
		{Clause{1, -2, 3, -4}, Clause{1, -2, 3, -4}, false},
		{Clause{10, 9, -2, 100}, Clause{-2, 9, 10, 100}, false},
		{Clause{-lits.MaxVar, 1, lits.MaxVar}, Clause{1, lits.MaxVar, -lits.MaxVar}, true},
		{Clause{lits.MaxVar, 1 - lits.MaxVar}, Clause{1 - lits.MaxVar, lits.MaxVar}, false},
		{from(1, MaxLits), from(1, MaxLits), false},
		{reversed(from(1, MaxLits)), from(1, MaxLits), false},
		{append(from(1, MaxLits-1), -1), append(Clause{1, -1}, from(2, MaxLits-1)...), true},
		{slices.Repeat(Clause{5}, MaxLits), Clause{5}, false},
		{slices.Repeat(Clause{5, -5}, MaxLits/2), Clause{5, -5}, true},
	}
}

func TestNormalForms(t *testing.T) {
	for i, f := range forms() {
		norm, always, e := Norm(f.c)
		if !slices.Equal(norm, f.norm) || always != f.always || e != api.OK {
			t.Error(i, norm, always, e)
		}
		if !Right(f.c) || Always(f.c) != f.always || Normal(f.c) != slices.Equal(f.c, f.norm) || !Normal(f.norm) {
			t.Error(i, Right(f.c), Always(f.c), Normal(f.c), Normal(f.norm))
		}
	}
}

func TestNormalFormsOfSmallClauses(t *testing.T) {
	for _, c := range small() {
		s := setOf(c...)
		norm, always, e := Norm(c)
		if !slices.Equal(norm, s.list()) || always != (s&s.negations() != 0) || e != api.OK {
			t.Error(c, norm, always, e)
		}
		if !Right(c) || Always(c) != always || Normal(c) != slices.Equal(c, s.list()) {
			t.Error(c, Right(c), Always(c), Normal(c))
		}
		for v := lits.Lit(1); v <= 4; v++ {
			for _, l := range []lits.Lit{v, -v} {
				if Has(c, l) != (s&setOf(l) != 0) {
					t.Error(c, l, Has(c, l))
				}
			}
		}
	}
}

func TestNoClauseIsOfAKind(t *testing.T) {
	for i, c := range noClauses() {
		norm, always, e := Norm(c)
		if len(norm) != 0 || always || e != ErrClause {
			t.Error(i, norm, always, e)
		}
		if Right(c) || Normal(c) || Always(c) {
			t.Error(i, Right(c), Normal(c), Always(c))
		}
		for _, l := range append(noLits(), 1, -1) {
			if Has(c, l) {
				t.Error(i, l)
			}
		}
	}
}

func TestHas(t *testing.T) {
	long := append(from(2, MaxLits), -lits.MaxVar)
	for i, c := range []struct {
		c    Clause
		l    lits.Lit
		want bool
	}{
		{nil, 1, false}, {Clause{1}, 1, true}, {Clause{1}, -1, false}, {Clause{-1}, -1, true}, {Clause{-1}, 1, false},
		{Clause{3, -1, 3}, 3, true}, {Clause{3, -1, 3}, -1, true}, {Clause{3, -1, 3}, -3, false}, {Clause{3, -1, 3}, 2, false},
		{long, 2, true}, {long, MaxLits, true}, {long, -lits.MaxVar, true}, {long, lits.MaxVar, false}, {long, 1, false},
		{Clause{1}, 0, false}, {nil, 0, false}, {Clause{1}, math.MinInt, false}, {Clause{1}, lits.MaxVar + 1, false},
	} {
		if Has(c.c, c.l) != c.want {
			t.Error(i, c.l)
		}
	}
}

// P2.2

func TestRelationsOfSmallClauses(t *testing.T) {
	all := small()
	for _, a := range all {
		for _, b := range all {
			s, u := setOf(a...), setOf(b...)
			if Same(a, b) != (s == u) || Within(a, b) != (s&^u == 0) || Compare(a, b) != s.compare(u) {
				t.Fatal(a, b, Same(a, b), Within(a, b), Compare(a, b))
			}
		}
	}
}

func TestRelations(t *testing.T) {
	long := from(1, MaxLits)
	for i, c := range []struct {
		a, b         Clause
		same, within bool
		compare      int
	}{
		{nil, nil, true, true, 0},
		{Clause{}, nil, true, true, 0},
		{nil, Clause{1}, false, true, -1},
		{Clause{1}, nil, false, false, 1},
		{Clause{1}, Clause{2, 1}, false, true, -1},
		{Clause{2, 1}, Clause{1}, false, false, 1},
		{Clause{5}, Clause{1, 2}, false, false, -1},
		{Clause{1, 2}, Clause{5}, false, false, 1},
		{Clause{5, 5, 5}, Clause{1, 2}, false, false, -1},
		{Clause{1, 2, 1}, Clause{2, 2, 1, 2}, true, true, 0},
		{Clause{1}, Clause{-1}, false, false, -1},
		{Clause{-1}, Clause{2}, false, false, -1},
		{Clause{2}, Clause{-1}, false, false, 1},
		{Clause{9, 1}, Clause{2, 3}, false, false, -1},
		{Clause{1, -2}, Clause{1, 2}, false, false, 1},
		{Clause{100, 1}, Clause{1, 20}, false, false, 1},
		{Clause{3, 2, 1}, Clause{1, 3, 3}, false, false, 1},
		{Clause{3, 1}, Clause{1, 2, 3}, false, true, -1},
		{long, reversed(long), true, true, 0},
		{long, append(from(1, MaxLits-1), 1), false, false, 1},
		{append(from(1, MaxLits-1), 1), long, false, true, -1},
		{long, append(from(1, MaxLits-1), -MaxLits), false, false, -1},
		{append(from(1, MaxLits-1), -MaxLits), long, false, false, 1},
		{slices.Repeat(Clause{4}, MaxLits), Clause{4}, true, true, 0},
	} {
		if Same(c.a, c.b) != c.same || Within(c.a, c.b) != c.within || Compare(c.a, c.b) != c.compare {
			t.Error(i, Same(c.a, c.b), Within(c.a, c.b), Compare(c.a, c.b))
		}
	}
}

func TestNoClauseIsRelated(t *testing.T) {
	for i, n := range noClauses() {
		for _, c := range []Clause{nil, {1}, {1, 2}, {-3, -2, -1}, from(1, MaxLits), n} {
			for _, p := range [][2]Clause{{n, c}, {c, n}} {
				if Same(p[0], p[1]) || Within(p[0], p[1]) || Compare(p[0], p[1]) != 0 {
					t.Error(i, len(c), Same(p[0], p[1]), Within(p[0], p[1]), Compare(p[0], p[1]))
				}
			}
		}
	}
}

// P2.3

func TestUnionOfSmallClauses(t *testing.T) {
	all := small()
	for _, a := range all {
		for _, b := range all {
			want := (setOf(a...) | setOf(b...)).list()
			if got, e := Union(a, b); !slices.Equal(got, want) || e != api.OK {
				t.Fatal(a, b, got, e)
			}
		}
	}
}

func TestUnionOfManyLiterals(t *testing.T) {
	const half = MaxLits / 2
	long := from(1, MaxLits)
	for i, c := range []struct {
		a, b, want Clause
		e          api.Errno
	}{
		{long, nil, long, api.OK},
		{nil, reversed(long), long, api.OK},
		{long, long, long, api.OK},
		{from(1, half), from(half+1, MaxLits), long, api.OK},
		{from(half+1, MaxLits), from(1, half), long, api.OK},
		{from(1, half), from(half+1, MaxLits+1), nil, api.ErrMany},
		{long, Clause{7, 7}, long, api.OK},
		{long, Clause{-7}, nil, api.ErrMany},
		{Clause{lits.MaxVar}, long, nil, api.ErrMany},
		{long, from(MaxLits+1, 2*MaxLits), nil, api.ErrMany},
		{slices.Repeat(Clause{3}, MaxLits), slices.Repeat(Clause{-3}, MaxLits), Clause{3, -3}, api.OK},
	} {
		if got, e := Union(c.a, c.b); !slices.Equal(got, c.want) || e != c.e {
			t.Error(i, len(got), e)
		}
	}
}

func TestWithoutOfSmallClauses(t *testing.T) {
	for _, c := range small() {
		for v := lits.Lit(1); v <= 4; v++ {
			for _, l := range []lits.Lit{v, -v} {
				want := (setOf(c...) &^ setOf(l)).list()
				if got, e := Without(c, l); !slices.Equal(got, want) || e != api.OK {
					t.Error(c, l, got, e)
				}
			}
		}
	}
	long := from(1, MaxLits)
	if got, e := Without(reversed(long), MaxLits); !slices.Equal(got, long[:MaxLits-1]) || e != api.OK {
		t.Error(len(got), e)
	}
}

func TestErrorsOfUnionAndWithout(t *testing.T) {
	for i, n := range noClauses() {
		for _, c := range []Clause{nil, {1}, from(1, MaxLits), n} {
			got, e := Union(n, c)
			more, f := Union(c, n)
			if len(got) != 0 || len(more) != 0 || e != ErrClause || f != ErrClause {
				t.Error(i, len(c), got, more, e, f)
			}
		}
		for _, l := range append(noLits(), 1, -1) {
			if got, e := Without(n, l); len(got) != 0 || e != ErrClause {
				t.Error(i, l, got, e)
			}
		}
	}
	for _, l := range noLits() {
		for _, c := range []Clause{nil, {1, 2}, from(1, MaxLits)} {
			if got, e := Without(c, l); len(got) != 0 || e != lits.ErrLit {
				t.Error(len(c), l, got, e)
			}
		}
	}
}

// P2.4

func TestClashesOfSmallClauses(t *testing.T) {
	all := small()
	for _, a := range all {
		for _, b := range all {
			want := (setOf(a...) & setOf(b...).negations()).list()
			if got, e := Clashes(a, b); !slices.Equal(got, want) || e != api.OK {
				t.Fatal(a, b, got, e)
			}
		}
	}
}

func TestClashes(t *testing.T) {
	var long Clause
	for v := lits.Lit(1); v <= MaxLits; v++ {
		long = append(long, -v)
	}
	for i, c := range []struct{ a, b, want Clause }{
		{nil, nil, nil},
		{Clause{1, 2}, nil, nil},
		{Clause{1, 2}, Clause{-1, -2}, Clause{1, 2}},
		{Clause{-1, -2}, Clause{1, 2}, Clause{-1, -2}},
		{Clause{1, 2}, Clause{1, 2}, nil},
		{Clause{9, -4, 9, 3}, Clause{4, 4, 5, -9}, Clause{-4, 9}},
		{Clause{2, -2}, Clause{2, -2}, Clause{2, -2}},
		{Clause{2, -2}, Clause{2}, Clause{-2}},
		{Clause{lits.MaxVar}, Clause{-lits.MaxVar, lits.MaxVar}, Clause{lits.MaxVar}},
		{from(1, MaxLits), long, from(1, MaxLits)},
		{reversed(long), reversed(from(1, MaxLits)), long},
	} {
		if got, e := Clashes(c.a, c.b); !slices.Equal(got, c.want) || e != api.OK {
			t.Error(i, got, e)
		}
	}
}

func TestResolveOfSmallClauses(t *testing.T) {
	all := small()
	for _, a := range all {
		for _, b := range all {
			for v := lits.Lit(1); v <= 4; v++ {
				for _, l := range []lits.Lit{v, -v} {
					var want Clause
					wanted := ErrResolve
					if setOf(a...)&setOf(l) != 0 && setOf(b...)&setOf(-l) != 0 {
						want = (setOf(a...)&^setOf(l) | setOf(b...)&^setOf(-l)).list()
						wanted = api.OK
					}
					if got, e := Resolve(a, b, l); !slices.Equal(got, want) || e != wanted {
						t.Fatal(a, b, l, got, e)
					}
				}
			}
		}
	}
}

func TestResolve(t *testing.T) {
	long := from(2, MaxLits)
	for i, c := range []struct {
		a, b Clause
		l    lits.Lit
		want Clause
		e    api.Errno
	}{
		{Clause{1, 2}, Clause{-1, 3}, 1, Clause{2, 3}, api.OK},
		{Clause{1, 2}, Clause{-1, 3}, 2, nil, ErrResolve},
		{Clause{1, 2}, Clause{-1, 3}, 3, nil, ErrResolve},
		{Clause{1, 2}, Clause{-1, 3}, -1, nil, ErrResolve},
		{Clause{-1, 3}, Clause{1, 2}, -1, Clause{2, 3}, api.OK},
		{Clause{1, 2}, Clause{-1, -2}, 1, Clause{2, -2}, api.OK},
		{Clause{1, 2}, Clause{-1, -2}, 2, Clause{1, -1}, api.OK},
		{Clause{1}, Clause{-1}, 1, nil, api.OK},
		{Clause{1, 1}, Clause{-1, -1, -1}, 1, nil, api.OK},
		{nil, Clause{-1}, 1, nil, ErrResolve},
		{Clause{1}, nil, 1, nil, ErrResolve},
		{Clause{1}, Clause{1}, 1, nil, ErrResolve},
		{Clause{-1}, Clause{-1}, 1, nil, ErrResolve},
		{Clause{1, -1}, Clause{-1}, 1, Clause{-1}, api.OK},
		{Clause{1}, Clause{-1, 1}, 1, Clause{1}, api.OK},
		{Clause{1, -1}, Clause{1, -1}, 1, Clause{1, -1}, api.OK},
		{Clause{8, 3, 3}, Clause{-8, 5, 2}, 8, Clause{2, 3, 5}, api.OK},
		{append(from(2, MaxLits), 1), Clause{-1}, 1, long, api.OK},
		{Clause{-1}, append(from(2, MaxLits), 1), -1, long, api.OK},
		{from(1, MaxLits), append(reversed(long), -1), 1, long, api.OK},
		{from(1, MaxLits), Clause{-1, MaxLits + 1}, 1, from(2, MaxLits+1), api.OK},
		{from(1, MaxLits), Clause{-1, MaxLits + 1, MaxLits + 2}, 1, nil, api.ErrMany},
		{Clause{1, MaxLits + 1, MaxLits + 2}, append(Clause{-1}, long...), 1, nil, api.ErrMany},
		{from(1, MaxLits), Clause{MaxLits + 1, MaxLits + 2}, 1, nil, ErrResolve},
	} {
		if got, e := Resolve(c.a, c.b, c.l); !slices.Equal(got, c.want) || e != c.e {
			t.Error(i, len(got), e)
		}
	}
}

func TestErrorsOfClashesAndResolve(t *testing.T) {
	for i, n := range noClauses() {
		for _, c := range []Clause{nil, {1}, {-1}, from(1, MaxLits), n} {
			for _, p := range [][2]Clause{{n, c}, {c, n}} {
				if got, e := Clashes(p[0], p[1]); len(got) != 0 || e != ErrClause {
					t.Error(i, len(c), got, e)
				}
				for _, l := range append(noLits(), 1, -1, 2) {
					if got, e := Resolve(p[0], p[1], l); len(got) != 0 || e != ErrClause {
						t.Error(i, len(c), l, got, e)
					}
				}
			}
		}
	}
	for _, l := range noLits() {
		for _, p := range [][2]Clause{{nil, nil}, {Clause{1}, Clause{-1}}, {from(1, MaxLits), Clause{-1, -2, -3}}} {
			if got, e := Resolve(p[0], p[1], l); len(got) != 0 || e != lits.ErrLit {
				t.Error(len(p[0]), l, got, e)
			}
		}
	}
}

// P2.5

func TestHoldsOfSmallClauses(t *testing.T) {
	all := small()
	for _, c := range all {
		for _, l := range all {
			with := append(Clause{0, math.MaxInt}, append(slices.Clone(l), math.MinInt)...)
			want := setOf(c...)&setOf(l...) != 0
			if Holds(c, l) != want || Holds(c, with) != want {
				t.Fatal(c, l, Holds(c, l), Holds(c, with))
			}
		}
	}
}

func TestHolds(t *testing.T) {
	// A list may be longer than a clause.
	long := make([]lits.Lit, 1<<20)
	for i := range long {
		long[i] = lits.Lit(-i - 2)
	}
	long[1<<20-1] = 0
	ended := append(slices.Clone(long), 2500)
	for i, c := range []struct {
		c    Clause
		l    []lits.Lit
		want bool
	}{
		{Clause{1, -2}, []lits.Lit{3, -2}, true},
		{Clause{1, -2}, nil, false},
		{Clause{1, -2}, []lits.Lit{-1, 2}, false},
		{Clause{1, -2}, []lits.Lit{1, -1}, true},
		{nil, []lits.Lit{1, -1, 2}, false},
		{nil, nil, false},
		{Clause{3, 1, 2, 1}, []lits.Lit{9, 8, 1}, true},
		{Clause{3, 1, 2, 1}, []lits.Lit{3}, true},
		{Clause{1, -1}, []lits.Lit{2}, false},
		{Clause{1, -2}, noLits(), false},
		{Clause{1, -2}, append(noLits(), -2), true},
		{Clause{lits.MaxVar}, []lits.Lit{lits.MaxVar + 1, -lits.MaxVar}, false},
		{Clause{lits.MaxVar}, []lits.Lit{-lits.MaxVar, lits.MaxVar}, true},
		{from(1, MaxLits), []lits.Lit{MaxLits + 1, MaxLits}, true},
		{from(1, MaxLits), long, false},
		{reversed(from(1, MaxLits)), ended, true},
	} {
		if Holds(c.c, c.l) != c.want {
			t.Error(i)
		}
	}
	for i, n := range noClauses() {
		if Holds(n, []lits.Lit{1, -1, 0}) || Holds(n, n) {
			t.Error(i)
		}
	}
}

// P2.6

// models are all lists of literals that have one of each of three variables.
func models() [][]lits.Lit {
	var all [][]lits.Lit
	for _, a := range []lits.Lit{1, -1} {
		for _, b := range []lits.Lit{2, -2} {
			all = append(all, []lits.Lit{a, b, 3}, []lits.Lit{a, b, -3})
		}
	}
	return all
}

func TestWhatHoldsBothHoldsWhatFollows(t *testing.T) {
	all, ms := small(), models()
	for _, a := range all {
		for _, b := range all {
			clashes, _ := Clashes(a, b)
			for _, l := range clashes {
				r, e := Resolve(a, b, l)
				if e != api.OK || len(lits.Vars(clashes)) >= 2 && !Always(r) {
					t.Fatal(a, b, l, r, e)
				}
				for _, m := range ms {
					if Holds(a, m) && Holds(b, m) && !Holds(r, m) {
						t.Fatal(a, b, l, m)
					}
				}
			}
		}
	}
}

func TestWhatIsWithinSaysMore(t *testing.T) {
	all, ms := small(), models()
	for _, a := range all {
		for _, m := range ms {
			if Always(a) && !Holds(a, m) || len(a) == 0 && Holds(a, m) {
				t.Fatal(a, m)
			}
			for _, b := range all {
				if Within(a, b) && Holds(a, m) && !Holds(b, m) {
					t.Fatal(a, b, m)
				}
			}
		}
	}
}

// What holds for all functions: arguments are kept, and results are new memory.

// calls are all functions that return lists, of two clauses and a literal.
func calls() []func(a, b Clause, l lits.Lit) []lits.Lit {
	return []func(a, b Clause, l lits.Lit) []lits.Lit{
		func(a, b Clause, l lits.Lit) []lits.Lit { c, _, _ := Norm(a); return c },
		func(a, b Clause, l lits.Lit) []lits.Lit { c, _ := Union(a, b); return c },
		func(a, b Clause, l lits.Lit) []lits.Lit { c, _ := Union(b, a); return c },
		func(a, b Clause, l lits.Lit) []lits.Lit { c, _ := Without(a, l); return c },
		func(a, b Clause, l lits.Lit) []lits.Lit { c, _ := Without(a, 99); return c },
		func(a, b Clause, l lits.Lit) []lits.Lit { c, _ := Clashes(a, b); return c },
		func(a, b Clause, l lits.Lit) []lits.Lit { c, _ := Resolve(a, b, l); return c },
	}
}

// look calls all functions that return no lists.
func look(a, b Clause, l lits.Lit) {
	Right(a)
	Normal(a)
	Has(a, l)
	Always(a)
	Same(a, b)
	Within(a, b)
	Compare(a, b)
	Holds(a, b)
}

func TestArgumentsAreKept(t *testing.T) {
	for _, p := range [][2]Clause{
		{Clause{1, 2, 5}, Clause{-1, -2, 5}}, // in normal form
		{Clause{1, 2, 5}, nil},
		{Clause{5, 2, 1, 2, 1}, Clause{-1, 7, -1, -2}}, // not so
		{Clause{5, 2, 1, 2, 1}, Clause{-1}},
		{Clause{1, 2}, Clause{9, 0, 7}}, // no clause
	} {
		for i, call := range calls() {
			// Behind each clause there is room with other numbers.
			a, b := append(slices.Clone(p[0]), 44, 41, 42, 41), append(slices.Clone(p[1]), 54, 51, 52, 51)
			was, were := slices.Clone(a), slices.Clone(b)
			x, y := a[:len(p[0])], b[:len(p[1])]
			first := call(x, y, 1)
			look(x, y, 1)
			if !slices.Equal(a, was) || !slices.Equal(b, were) {
				t.Error(i, "an argument, or what is behind it, was changed:", a, b)
			}
			want := slices.Clone(first)
			for j := range first[:cap(first)] {
				first[:cap(first)][j] = -77
			}
			if second := call(x, y, 1); !slices.Equal(second, want) || !slices.Equal(a, was) || !slices.Equal(b, were) {
				t.Error(i, "a result shares memory:", second, a, b)
			}
		}
	}
}
