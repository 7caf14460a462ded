package formula

import (
	"iter"
	"math"
	"slices"
	"testing"

	"salvor/api"
	"salvor/clauses"
	"salvor/lits"
)

type clause = clauses.Clause

// of returns the formula of some variables and clauses.
func of(vars int, c ...clause) Formula { return Formula{vars, c} }

// from returns the clause of the variables from one to another one.
func from(first, last int) clause {
	var c clause
	for v := first; v <= last; v++ {
		c = append(c, lits.Lit(v))
	}
	return c
}

// many returns a clause so many times.
func many(c clause, times int) []clause { return slices.Repeat([]clause{c}, times) }

// draws is a row of numbers that look as if they were drawn, the same ones each time.
type draws uint64

func (d *draws) below(bound int) int {
	*d = *d*6364136223846793005 + 1442695040888963407
	return int(uint64(*d)>>33) % bound
}

// lit draws a literal of some variables.
func (d *draws) lit(vars int) lits.Lit {
	return lits.Lit(1+d.below(vars)) * lits.Lit(1-2*d.below(2))
}

// formula draws a formula of 1 to 5 variables; literals stand twice in clauses, clauses twice in the formula, now and then.
func (d *draws) formula() Formula {
	f := of(1 + d.below(5))
	for range d.below(7) {
		var c clause
		for range d.below(12) / 2 {
			c = append(c, d.lit(f.Vars))
		}
		if len(f.Clauses) > 0 && d.below(6) == 0 {
			c = slices.Clone(f.Clauses[d.below(len(f.Clauses))])
			slices.Reverse(c)
		}
		// The empty clause leaves no model, so it comes seldom.
		if len(c) > 0 || d.below(8) == 0 {
			f.Clauses = append(f.Clauses, c)
		}
	}
	return f
}

// formulas are right formulas of few variables.
func formulas() []Formula {
	l := []Formula{
		of(0), {0, []clause{}}, of(0, nil), of(0, clause{}, nil), of(1), of(3), of(5),
		of(1, clause{1}), of(1, clause{-1}), of(1, clause{1}, clause{-1}), of(1, clause{1, -1}), of(1, nil),
		of(2, clause{2}), of(2, clause{-2, -2}, clause{-2}), of(3, clause{2}, nil), of(3, clause{3, -3}, clause{1, 2, -1}),
		of(3, clause{1, 2}, clause{-1, 3}), of(3, clause{2, 1, 2}, clause{3, -3}, clause{1, 2}),
		of(3, clause{1, 2, 3}, clause{-1, -2, -3}, clause{1, -2}, clause{2, -3}, clause{3, -1}),
		of(4, clause{-4, 1}, clause{1, -4}, clause{-4, 1, -4}, clause{4}),
	}
	d := draws(5)
	for range 400 {
		l = append(l, d.formula())
	}
	return l
}

// models are all models of some variables, in their order.
func models(vars int) [][]bool {
	if vars == 0 {
		return [][]bool{nil}
	}
	var l [][]bool
	for _, first := range []bool{false, true} {
		for _, m := range models(vars - 1) {
			l = append(l, append([]bool{first}, m...))
		}
	}
	return l
}

// isTrue reports whether a literal is true in a model that has its variable.
func isTrue(l lits.Lit, m []bool) bool {
	if l < 0 {
		return !m[-l-1]
	}
	return m[l-1]
}

func isClauseTrue(c clause, m []bool) bool {
	return slices.ContainsFunc(c, func(l lits.Lit) bool { return isTrue(l, m) })
}

// firstFailing returns the index of the first clause that does not hold in a model; -1 if all of them do.
func firstFailing(f Formula, m []bool) int {
	return slices.IndexFunc(f.Clauses, func(c clause) bool { return !isClauseTrue(c, m) })
}

// modelsOf are all models in which a formula holds, in their order.
func modelsOf(f Formula) [][]bool {
	return slices.DeleteFunc(models(f.Vars), func(m []bool) bool { return firstFailing(f, m) >= 0 })
}

// collected returns what Models yields.
func collected(t *testing.T, f Formula) [][]bool {
	t.Helper()
	seq, e := Models(f)
	if seq == nil || e != api.OK {
		t.Fatal(f, e)
	}
	return slices.Collect(seq)
}

func sameModels(a, b [][]bool) bool { return slices.EqualFunc(a, b, slices.Equal[[]bool]) }

// equal reports whether two formulas are equal, literal by literal.
func equal(f, g Formula) bool {
	if f.Vars != g.Vars || len(f.Clauses) != len(g.Clauses) {
		return false
	}
	for i := range f.Clauses {
		if !slices.Equal(f.Clauses[i], g.Clauses[i]) {
			return false
		}
	}
	return true
}

// copied returns a formula of its own.
func copied(f Formula) Formula {
	g := of(f.Vars)
	for _, c := range f.Clauses {
		g.Clauses = append(g.Clauses, slices.Concat(clause{}, c))
	}
	return g
}

// noLits are numbers that are no literals.
func noLits() []lits.Lit {
	return []lits.Lit{0, lits.MaxVar + 1, -lits.MaxVar - 1, 1<<32 + 1, math.MaxInt, math.MinInt}
}

// noVars are numbers of variables that there may not be.
func noVars() []int {
	return []int{-1, lits.MaxVar + 1, math.MinInt, math.MaxInt, 1 << 32, -lits.MaxVar, math.MinInt32}
}

// wrong is a formula that is not right, with what Check says of it.
type wrong struct {
	f     Formula
	index int
	e     api.Errno
}

// wrongFormulas are formulas that are not right.
func wrongFormulas() []wrong {
	tooMany := many(clause{1}, MaxClauses+1)
	l := []wrong{
		{of(1, tooMany...), -1, api.ErrMany},
		{of(3, many(nil, MaxClauses+1)...), -1, api.ErrMany},
		{of(0, tooMany...), -1, api.ErrMany},
		{of(3, append(many(clause{0}, 2), tooMany...)...), -1, api.ErrMany},
		{of(3, from(1, clauses.MaxLits+1)), 0, clauses.ErrClause},
		{of(3, slices.Repeat(clause{1}, clauses.MaxLits+1)), 0, clauses.ErrClause},
		{of(lits.MaxVar, clause{5}, from(1, clauses.MaxLits+1)), 1, clauses.ErrClause},
		{of(0, clause{1}), 0, ErrLit},
		{of(0, nil, clause{-1}), 1, ErrLit},
		{of(0, clause{0}), 0, clauses.ErrClause},
		{of(3, clause{4}), 0, ErrLit},
		{of(3, clause{-4}), 0, ErrLit},
		{of(3, clause{lits.MaxVar}), 0, ErrLit},
		{of(3, clause{-lits.MaxVar}), 0, ErrLit},
		{of(lits.MaxVar-1, clause{lits.MaxVar}), 0, ErrLit},
		{of(3, clause{1, 2, 4}), 0, ErrLit},
		{of(3, clause{4, 1, 2}), 0, ErrLit},
		{of(3, clause{4, -4}), 0, ErrLit},
		{of(3, clause{4, 0}), 0, clauses.ErrClause},
		{of(3, clause{0, 4}), 0, clauses.ErrClause},
		{of(3, clause{1}, clause{4}, clause{0}), 1, ErrLit},
		{of(3, clause{1}, clause{0}, clause{4}), 1, clauses.ErrClause},
		{of(3, clause{1}, clause{2}, nil, clause{3, -5}, clause{4}), 3, ErrLit},
		{of(3, clause{0}, clause{0}), 0, clauses.ErrClause},
		{of(3, append(many(clause{1, 2}, MaxClauses-1), clause{4})...), MaxClauses - 1, ErrLit},
		{of(3, append(many(clause{1, 2}, MaxClauses-1), clause{0})...), MaxClauses - 1, clauses.ErrClause},
		{of(MaxTried+1, clause{MaxTried + 2}), 0, ErrLit},
		{of(MaxTried+1, clause{0}), 0, clauses.ErrClause},
	}
	for _, n := range noLits() {
		for i := range 3 {
			c := slices.Insert(clause{1, -2}, i, n)
			l = append(l, wrong{of(3, c), 0, clauses.ErrClause}, wrong{of(3, clause{1}, nil, c), 2, clauses.ErrClause})
		}
	}
	for _, n := range noVars() {
		l = append(l, wrong{of(n), -1, ErrVars}, wrong{of(n, clause{1}), -1, ErrVars}, wrong{of(n, clause{0}), -1, ErrVars},
			wrong{of(n, tooMany...), -1, ErrVars})
	}
	return l
}

func TestConstants(t *testing.T) {
	if MaxClauses != 1<<18 || MaxTried != 16 || ErrVars != 50 || ErrLit != 51 || ErrModel != 52 {
		t.Error(MaxClauses, MaxTried, ErrVars, ErrLit, ErrModel)
	}
}

func TestExamples(t *testing.T) {
	f := of(3, clause{1, 2}, clause{-1, 3})
	if n, e := Count(f); n != 4 || e != api.OK {
		t.Error(n, e)
	}
	if m, ok, e := First(f); !slices.Equal(m, []bool{false, true, false}) || !ok || e != api.OK {
		t.Error(m, ok, e)
	}
	if i, fails, e := Fails(f, []bool{true, false, false}); i != 1 || !fails || e != api.OK {
		t.Error(i, fails, e)
	}
	if g, e := Assign(f, 1); !equal(g, of(3, clause{3})) || e != api.OK {
		t.Error(g, e)
	}
	if g, e := Assign(f, -1); !equal(g, of(3, clause{2})) || e != api.OK {
		t.Error(g, e)
	}
	if g, e := Norm(of(3, clause{2, 1, 2}, clause{3, -3}, clause{1, 2})); !equal(g, of(3, clause{1, 2})) || e != api.OK {
		t.Error(g, e)
	}
	if n, e := Count(of(3)); n != 8 || e != api.OK {
		t.Error(n, e)
	}
	if n, e := Count(of(3, nil)); n != 0 || e != api.OK {
		t.Error(n, e)
	}
}

// P5.1

func TestCheckOfRightFormulas(t *testing.T) {
	l := append(formulas(),
		of(lits.MaxVar), of(lits.MaxVar, clause{lits.MaxVar}, clause{-lits.MaxVar, 1}), of(lits.MaxVar-1, clause{lits.MaxVar - 1}),
		of(clauses.MaxLits, from(1, clauses.MaxLits)), of(1, slices.Repeat(clause{1, -1}, clauses.MaxLits/2)),
		of(1, many(clause{1}, MaxClauses)...), of(0, many(nil, MaxClauses)...), of(lits.MaxVar, many(clause{-5, lits.MaxVar}, MaxClauses)...),
		of(4, clause{4}), of(4, clause{-4}), of(4, clause{1, 2, 3, 4}, clause{-4, -3, -2, -1}), of(17, clause{17}))
	for i, f := range l {
		if index, e := Check(f); index != -1 || e != api.OK {
			t.Error(i, index, e)
		}
	}
}

func TestCheckOfWrongFormulas(t *testing.T) {
	for i, w := range wrongFormulas() {
		if index, e := Check(w.f); index != w.index || e != w.e {
			t.Error(i, index, e, "but not", w.index, w.e)
		}
	}
}

func TestCheckOfEachVariable(t *testing.T) {
	for vars := range 6 {
		for v := lits.Lit(1); v <= 7; v++ {
			for _, l := range []lits.Lit{v, -v} {
				index, e := Check(of(vars, nil, clause{l}))
				if right := int(v) <= vars; right && (index != -1 || e != api.OK) || !right && (index != 1 || e != ErrLit) {
					t.Error(vars, l, index, e)
				}
			}
		}
	}
}

// different are formulas, right and wrong ones, each of which is different from all others.
func different() []Formula {
	l := []Formula{
		of(0), of(1), of(2), of(-1), of(math.MinInt), of(math.MaxInt),
		of(2, nil), of(1, nil), of(2, nil, nil), of(-1, nil),
		of(2, clause{1}), of(2, clause{2}), of(2, clause{-1}), of(2, clause{0}), of(2, clause{math.MaxInt}), of(3, clause{1}),
		of(2, clause{1, 1}), of(2, clause{1, 2}), of(2, clause{2, 1}), of(2, clause{1, 2, 1}), of(2, clause{1, 2, 2}),
		of(2, clause{1}, clause{2}), of(2, clause{2}, clause{1}), of(2, clause{1}, clause{1}), of(2, clause{1}, nil), of(2, nil, clause{1}),
		of(2, clause{1}, clause{2}, clause{1}), of(2, clause{1, -1}), of(2, clause{-1, 1}), of(2, clause{1, 2}, clause{1}),
	}
	long := from(1, clauses.MaxLits+5)
	changed := slices.Clone(long)
	changed[len(changed)-1] = 0
	return append(l, of(5, long), of(5, changed), of(5, many(clause{1}, MaxClauses+1)...), of(5, many(clause{1}, MaxClauses+2)...))
}

func TestSame(t *testing.T) {
	for i, f := range different() {
		for j, g := range different() {
			if Same(f, g) != (i == j) {
				t.Error(i, j, Same(f, g))
			}
		}
	}
	for i, f := range formulas() {
		for j, g := range formulas() {
			if Same(f, g) != equal(f, g) {
				t.Fatal(i, j, Same(f, g))
			}
		}
	}
}

func TestNilAndEmptyListsAreTheSame(t *testing.T) {
	for i, p := range [][2]Formula{
		{{3, nil}, {3, []clause{}}}, {of(3, nil), of(3, clause{})}, {of(-1, clause{}, clause{0}), of(-1, nil, clause{0})},
	} {
		if !Same(p[0], p[1]) || !Same(p[1], p[0]) || !Same(Copy(p[0]), p[1]) || !Same(Copy(p[1]), p[0]) {
			t.Error(i)
		}
	}
}

func TestCopy(t *testing.T) {
	for i, f := range append(different(), formulas()...) {
		before := copied(f)
		g := Copy(f)
		if !equal(g, before) || !equal(f, before) {
			t.Fatal(i, g)
		}
		spoil(g)
		if !equal(f, before) {
			t.Fatal(i, "the copy has memory of the formula")
		}
	}
}

// spoil writes into all memory that a formula has, its spare one too.
func spoil(f Formula) {
	for _, c := range f.Clauses[:cap(f.Clauses)] {
		c = c[:cap(c)]
		for i := range c {
			c[i] = 77
		}
	}
	l := f.Clauses[:cap(f.Clauses)]
	for i := range l {
		l[i] = clause{78}
	}
}

// P5.2

// lists are all lists of at most three literals of three variables.
func lists() []clause {
	all := []clause{nil}
	for i := 0; len(all[i]) < 3; i++ {
		for v := lits.Lit(1); v <= 3; v++ {
			all = append(all, append(slices.Clone(all[i]), v), append(slices.Clone(all[i]), -v))
		}
	}
	return all
}

func TestHoldsOfAllSmallClauses(t *testing.T) {
	for _, c := range lists() {
		for vars := range 5 {
			for _, m := range models(vars) {
				want := lits.Greatest(c) <= vars && isClauseTrue(c, m)
				if Holds(c, m) != want {
					t.Fatal(c, m, Holds(c, m))
				}
			}
		}
	}
}

func TestHolds(t *testing.T) {
	all := make([]bool, lits.MaxVar)
	all[lits.MaxVar-1] = true
	for i, c := range []struct {
		c    clause
		m    []bool
		want bool
	}{
		{nil, nil, false}, {clause{}, []bool{}, false}, {nil, []bool{true, false}, false},
		{clause{1}, nil, false}, {clause{-1}, nil, false}, {clause{1, -1}, nil, false},
		{clause{1}, []bool{true}, true}, {clause{-1}, []bool{true}, false}, {clause{-1}, []bool{false}, true}, {clause{1, -1}, []bool{false}, true},
		{clause{1, 2}, []bool{true}, false}, {clause{2, 1}, []bool{true}, false}, {clause{1, -2}, []bool{true}, false}, {clause{1, -2}, []bool{true, true}, true},
		{clause{1, 0}, []bool{true}, false}, {clause{0, 1}, []bool{true}, false}, {clause{0}, []bool{true}, false},
		{clause{lits.MaxVar}, all, true}, {clause{-lits.MaxVar}, all, false}, {clause{1, lits.MaxVar}, all, true}, {clause{lits.MaxVar}, all[:lits.MaxVar-1], false},
		{clause{lits.MaxVar}, append(slices.Clone(all), false), true}, {clause{1, lits.MaxVar + 1}, make([]bool, lits.MaxVar+2), false},
		{clause{-1, lits.MaxVar + 1}, make([]bool, lits.MaxVar+2), false},
		{from(1, clauses.MaxLits), append(make([]bool, clauses.MaxLits-1), true), true}, {from(1, clauses.MaxLits), make([]bool, clauses.MaxLits), false},
		{slices.Repeat(clause{-1}, clauses.MaxLits), []bool{false}, true}, {slices.Repeat(clause{-1}, clauses.MaxLits+1), []bool{false}, false},
	} {
		if Holds(c.c, c.m) != c.want {
			t.Error(i, Holds(c.c, c.m))
		}
	}
	for _, n := range noLits() {
		for i := range 3 {
			if c := slices.Insert(clause{1, -2}, i, n); Holds(c, []bool{true, true}) || Holds(c, []bool{true, false, true}) {
				t.Error(c)
			}
		}
	}
}

func TestValuesInAllModels(t *testing.T) {
	for _, f := range formulas() {
		for _, m := range models(f.Vars) {
			want := firstFailing(f, m)
			value, e := Value(f, m)
			if value != (want < 0) || e != api.OK {
				t.Fatal(f, m, value, e)
			}
			i, fails, e := Fails(f, m)
			if i != max(want, 0) || fails != (want >= 0) || e != api.OK {
				t.Fatal(f, m, i, fails, e)
			}
		}
	}
}

func TestValuesOfLargeFormulas(t *testing.T) {
	m := make([]bool, lits.MaxVar)
	m[lits.MaxVar-1] = true
	f := of(lits.MaxVar, many(clause{1, lits.MaxVar}, MaxClauses)...)
	if value, e := Value(f, m); !value || e != api.OK {
		t.Error(value, e)
	}
	if i, fails, e := Fails(f, m); i != 0 || fails || e != api.OK {
		t.Error(i, fails, e)
	}
	f.Clauses[MaxClauses-1] = clause{1, -lits.MaxVar}
	if value, e := Value(f, m); value || e != api.OK {
		t.Error(value, e)
	}
	if i, fails, e := Fails(f, m); i != MaxClauses-1 || !fails || e != api.OK {
		t.Error(i, fails, e)
	}
}

func TestModelsOfOtherLengths(t *testing.T) {
	for _, f := range []Formula{of(0), of(0, nil), of(3), of(3, nil), of(3, clause{1}), of(3, clause{1, -1}), of(MaxTried + 1), of(lits.MaxVar)} {
		for _, n := range []int{0, 1, f.Vars - 1, f.Vars, f.Vars + 1, 2 * f.Vars, lits.MaxVar + 1} {
			m := slices.Repeat([]bool{true}, max(n, 0))
			want, any := ErrModel, false
			if len(m) == f.Vars {
				want, any = api.OK, true
			}
			value, e := Value(f, m)
			if e != want || value && !any {
				t.Error(f.Vars, n, value, e)
			}
			i, fails, e := Fails(f, m)
			if e != want || i != 0 || fails && !any {
				t.Error(f.Vars, n, i, fails, e)
			}
		}
	}
}

// P5.3

func TestModels(t *testing.T) {
	for _, f := range formulas() {
		want := modelsOf(f)
		if got := collected(t, f); !sameModels(got, want) {
			t.Fatal(f, got, want)
		}
		if n, e := Count(f); n != len(want) || e != api.OK {
			t.Fatal(f, n, e)
		}
		m, ok, e := First(f)
		if ok != (len(want) > 0) || e != api.OK || !ok && len(m) != 0 || ok && !slices.Equal(m, want[0]) {
			t.Fatal(f, m, ok, e)
		}
	}
}

func TestModelsOfAllSmallClauses(t *testing.T) {
	for _, c := range lists() {
		for _, d := range lists() {
			f := of(3, c, d)
			if got := collected(t, f); !sameModels(got, modelsOf(f)) {
				t.Fatal(f, got)
			}
		}
	}
}

func TestModelsOfNoVariables(t *testing.T) {
	if got := collected(t, of(0)); len(got) != 1 || len(got[0]) != 0 {
		t.Error(got)
	}
	if m, ok, e := First(of(0)); len(m) != 0 || !ok || e != api.OK {
		t.Error(m, ok, e)
	}
	if got := collected(t, of(0, nil)); len(got) != 0 {
		t.Error(got)
	}
	if m, ok, e := First(of(0, nil)); m != nil || ok || e != api.OK {
		t.Error(m, ok, e)
	}
}

func TestModelsOfAsManyVariablesAsAreTried(t *testing.T) {
	all := of(MaxTried)
	if got := collected(t, all); !sameModels(got, models(MaxTried)) {
		t.Error(len(got))
	}
	if n, e := Count(all); n != 1<<MaxTried || e != api.OK {
		t.Error(n, e)
	}
	last := of(MaxTried)
	for v := range MaxTried {
		last.Clauses = append(last.Clauses, clause{lits.Lit(v + 1)})
	}
	if got := collected(t, last); len(got) != 1 || slices.Contains(got[0], false) || len(got[0]) != MaxTried {
		t.Error(got)
	}
	parity := of(MaxTried, clause{1, 16}, clause{-1, -16}, clause{5, -9}, clause{-5, 9})
	if n, e := Count(parity); n != 1<<14 || e != api.OK {
		t.Error(n, e)
	}
	want := make([]bool, MaxTried)
	want[1], want[15] = true, true
	if m, ok, e := First(of(MaxTried, clause{-16, 2}, clause{16})); !slices.Equal(m, want) || !ok || e != api.OK {
		t.Error(m, ok, e)
	}
}

func TestModelsOfTooManyVariables(t *testing.T) {
	for _, f := range []Formula{
		of(MaxTried + 1), of(MaxTried+1, nil), of(MaxTried+1, clause{1}, clause{-1}), of(64), of(63, nil), of(lits.MaxVar), of(lits.MaxVar, clause{lits.MaxVar}),
	} {
		if seq, e := Models(f); seq != nil || e != api.ErrMany {
			t.Error(f.Vars, e)
		}
		if n, e := Count(f); n != 0 || e != api.ErrMany {
			t.Error(f.Vars, n, e)
		}
		if m, ok, e := First(f); m != nil || ok || e != api.ErrMany {
			t.Error(f.Vars, m, ok, e)
		}
	}
}

// Each clause in each model would be 2^34 times one.
func TestManyClausesAndManyModels(t *testing.T) {
	always := of(MaxTried, many(clause{1, -1}, MaxClauses)...)
	if n, e := Count(always); n != 1<<MaxTried || e != api.OK {
		t.Error(n, e)
	}
	same := of(MaxTried, many(clause{16, 15}, MaxClauses)...)
	if n, e := Count(same); n != 3<<(MaxTried-2) || e != api.OK {
		t.Error(n, e)
	}
	apart := of(MaxTried)
	for n := range MaxClauses {
		// The digits of n, to the base 3, are what a clause has of the variables behind the first one.
		c := clause{1}
		for v := lits.Lit(2); v <= MaxTried; v++ {
			switch n % 3 {
			case 1:
				c = append(c, v)
			case 2:
				c = append(c, -v)
			}
			n /= 3
		}
		apart.Clauses = append(apart.Clauses, c)
	}
	if n, e := Count(apart); n != 1<<(MaxTried-1) || e != api.OK {
		t.Error(n, e)
	}
	if m, ok, e := First(apart); len(m) != MaxTried || !m[0] || slices.Contains(m[1:], true) || !ok || e != api.OK {
		t.Error(m, ok, e)
	}
}

func TestWalksThatAreStopped(t *testing.T) {
	f := of(4, clause{1, 2}, clause{-1, 3})
	want := modelsOf(f)
	for stop := 1; stop <= len(want); stop++ {
		seq, _ := Models(f)
		for range 2 {
			var got [][]bool
			for m := range seq {
				got = append(got, m)
				if len(got) == stop {
					break
				}
			}
			if !sameModels(got, want[:stop]) {
				t.Error(stop, got)
			}
		}
		if got := slices.Collect(seq); !sameModels(got, want) {
			t.Error(stop, got)
		}
	}
}

func TestYieldIsNotCalledAgain(t *testing.T) {
	for _, f := range []Formula{of(0), of(3), of(3, clause{1, 2})} {
		seq, _ := Models(f)
		calls := 0
		seq(func([]bool) bool { calls++; return false })
		if calls != 1 {
			t.Error(f, calls)
		}
	}
}

func TestWalksWithinWalks(t *testing.T) {
	f := of(3, clause{1, 2}, clause{-1, 3})
	want := modelsOf(f)
	seq, _ := Models(f)
	var outer, inner [][]bool
	for m := range seq {
		outer = append(outer, m)
		for n := range seq {
			inner = append(inner, n)
		}
	}
	if !sameModels(outer, want) || !sameModels(inner, slices.Repeat(want, len(want))) {
		t.Error(outer, inner)
	}
}

func TestWhatIsYieldedIsNew(t *testing.T) {
	f := of(3, clause{1, 2, 3})
	want := modelsOf(f)
	seq, _ := Models(f)
	var got [][]bool
	for m := range seq {
		got = append(got, slices.Clone(m))
		for i := range m {
			m[i] = !m[i]
		}
	}
	if !sameModels(got, want) || !sameModels(slices.Collect(seq), want) {
		t.Error(got)
	}
	kept := slices.Collect(seq)
	for i := range kept {
		for j := range kept[i] {
			kept[i][j] = true
		}
		if i+1 < len(kept) && !slices.Equal(kept[i+1], want[i+1]) {
			t.Error(i, kept[i+1])
		}
	}
}

func TestModelsAreThoseOfTheFormulaAsItWas(t *testing.T) {
	f := of(3, clause{1, 2}, clause{-1, 3})
	want := modelsOf(f)
	seq, _ := Models(f)
	spoiled := func(seq iter.Seq[[]bool]) [][]bool {
		var got [][]bool
		for m := range seq {
			got = append(got, m)
			f.Clauses[0][0], f.Clauses[1] = -2, clause{3}
		}
		return got
	}
	if got := spoiled(seq); !sameModels(got, want) {
		t.Error(got)
	}
	if got := slices.Collect(seq); !sameModels(got, want) {
		t.Error(got)
	}
}

// P5.4

// assigned returns what is left of a formula if a literal is true.
func assigned(f Formula, l lits.Lit) Formula {
	left := of(f.Vars)
	for _, c := range f.Clauses {
		if !slices.Contains(c, l) {
			left.Clauses = append(left.Clauses, slices.DeleteFunc(slices.Clone(c), func(x lits.Lit) bool { return x == -l }))
		}
	}
	return left
}

func TestAssign(t *testing.T) {
	for i, c := range []struct {
		f    Formula
		l    lits.Lit
		want Formula
	}{
		{of(1), 1, of(1)}, {of(1), -1, of(1)}, {Formula{4, []clause{}}, -4, of(4)},
		{of(1, nil), 1, of(1, nil)}, {of(1, clause{}, nil), -1, of(1, nil, nil)},
		{of(1, clause{1}), 1, of(1)}, {of(1, clause{1}), -1, of(1, nil)}, {of(1, clause{-1}), 1, of(1, nil)}, {of(1, clause{-1}), -1, of(1)},
		{of(2, clause{1, 1, 2, 1}), -1, of(2, clause{2})}, {of(2, clause{1, 1, 2, 1}), 1, of(2)}, {of(2, clause{1, 1}), -1, of(2, nil)},
		{of(2, clause{1, -1}), 1, of(2)}, {of(2, clause{1, -1}), -1, of(2)}, {of(2, clause{-1, 1}), 1, of(2)}, {of(2, clause{-1, 1}), -1, of(2)},
		{of(3, clause{3, -2, 3, -2}), 1, of(3, clause{3, -2, 3, -2})}, {of(3, clause{3, 1, 2, 3}), -1, of(3, clause{3, 2, 3})},
		{of(3, clause{3}, clause{2, -1}, clause{3}, clause{2}, clause{1}), 1, of(3, clause{3}, clause{2}, clause{3}, clause{2})},
		{of(9, clause{3, -2}, clause{2}), 9, of(9, clause{3, -2}, clause{2})}, {of(9, clause{3, -2}, clause{2}), -9, of(9, clause{3, -2}, clause{2})},
		{of(3, clause{3, -3, 1}), -1, of(3, clause{3, -3})}, {of(3, clause{2, 1}, clause{1, 2}), -2, of(3, clause{1}, clause{1})},
		{of(lits.MaxVar, clause{-lits.MaxVar, 5}, clause{lits.MaxVar}), lits.MaxVar, of(lits.MaxVar, clause{5})},
		{of(lits.MaxVar, clause{-lits.MaxVar, 5}, clause{lits.MaxVar}), -lits.MaxVar, of(lits.MaxVar, nil)},
		{of(clauses.MaxLits, from(1, clauses.MaxLits)), -clauses.MaxLits, of(clauses.MaxLits, from(1, clauses.MaxLits-1))},
		{of(2, many(clause{1, 2}, MaxClauses)...), -2, of(2, many(clause{1}, MaxClauses)...)},
	} {
		if got, e := Assign(c.f, c.l); !equal(got, c.want) || e != api.OK {
			t.Error(i, len(got.Clauses), e)
		}
	}
	for _, f := range formulas() {
		for v := 1; v <= f.Vars; v++ {
			for _, l := range []lits.Lit{lits.Lit(v), lits.Lit(-v)} {
				if got, e := Assign(f, l); !equal(got, assigned(f, l)) || e != api.OK {
					t.Fatal(f, l, got, e)
				}
			}
		}
	}
}

func TestAssignOfNoneOfTheVariables(t *testing.T) {
	for _, f := range []Formula{of(0), of(0, nil), of(1, clause{1}), of(3, clause{1, 2}), of(lits.MaxVar)} {
		for _, l := range append(noLits(), lits.Lit(f.Vars+1), lits.Lit(-f.Vars-1)) {
			if got, e := Assign(f, l); !equal(got, Formula{}) || e != ErrLit {
				t.Error(f.Vars, l, got, e)
			}
		}
	}
}

func TestNorm(t *testing.T) {
	for i, c := range []struct{ f, want Formula }{
		{of(0), of(0)}, {Formula{7, []clause{}}, of(7)}, {of(lits.MaxVar), of(lits.MaxVar)},
		{of(0, nil), of(0, nil)}, {of(2, nil, clause{}, nil), of(2, nil)}, {of(2, clause{2}, nil), of(2, nil, clause{2})},
		{of(2, clause{1, -1}), of(2)}, {of(2, clause{-1, 2, 1}, clause{2}), of(2, clause{2})},
		{of(2, clause{2, 2, 2}), of(2, clause{2})}, {of(2, clause{2, 2}, clause{2}, clause{2, 2, 2}), of(2, clause{2})},
		{of(3, clause{3}, clause{2}, clause{1}), of(3, clause{1}, clause{2}, clause{3})}, {of(3, clause{-1}, clause{1}), of(3, clause{1}, clause{-1})},
		{of(3, clause{1, 2, 3}, clause{3}, clause{2, 1}), of(3, clause{3}, clause{1, 2}, clause{1, 2, 3})},
		{of(3, clause{3, 2}, clause{1, 2}, clause{2, 3}, clause{2, 1, 1}), of(3, clause{1, 2}, clause{2, 3})},
		{of(3, clause{2, -1}, clause{-2, 1}, clause{2, 1}), of(3, clause{1, 2}, clause{1, -2}, clause{-1, 2})},
		{of(10, clause{10, 9}, clause{2, 10}, clause{-2, 3}), of(10, clause{2, 10}, clause{-2, 3}, clause{9, 10})},
		{of(1, many(clause{1, -1}, MaxClauses)...), of(1)}, {of(1, many(clause{1, 1}, MaxClauses)...), of(1, clause{1})},
		{of(1, slices.Repeat(clause{-1}, clauses.MaxLits)), of(1, clause{-1})},
	} {
		if got, e := Norm(c.f); !equal(got, c.want) || e != api.OK {
			t.Error(i, got, e)
		}
	}
}

func TestNormOfFormulas(t *testing.T) {
	for _, f := range formulas() {
		want := of(f.Vars)
		for _, c := range f.Clauses {
			n, always, _ := clauses.Norm(c)
			if !always && !slices.ContainsFunc(want.Clauses, func(d clause) bool { return slices.Equal(d, n) }) {
				want.Clauses = append(want.Clauses, n)
			}
		}
		slices.SortFunc(want.Clauses, clauses.Compare)
		got, e := Norm(f)
		if !equal(got, want) || e != api.OK {
			t.Fatal(f, got, e)
		}
	}
}

func TestNormOfManyClauses(t *testing.T) {
	f := of(lits.MaxVar)
	for n := range MaxClauses {
		f.Clauses = append(f.Clauses, clause{lits.Lit(1 + n/2), lits.Lit(lits.MaxVar - n/2)})
	}
	slices.Reverse(f.Clauses)
	got, e := Norm(f)
	if len(got.Clauses) != MaxClauses/2 || e != api.OK {
		t.Fatal(len(got.Clauses), e)
	}
	for n, c := range got.Clauses {
		if !slices.Equal(c, clause{lits.Lit(1 + n), lits.Lit(lits.MaxVar - n)}) {
			t.Fatal(n, c)
		}
	}
}

// P5.5

func TestLits(t *testing.T) {
	for vars := range 6 {
		for _, m := range models(vars) {
			var want []lits.Lit
			for i, value := range m {
				l := lits.Lit(i + 1)
				if !value {
					l = -l
				}
				want = append(want, l)
			}
			if got := Lits(m); !slices.Equal(got, want) {
				t.Error(m, got)
			}
		}
	}
}

func TestLitsOfLongModels(t *testing.T) {
	for _, n := range []int{lits.MaxVar - 1, lits.MaxVar, lits.MaxVar + 1, lits.MaxVar + 1000} {
		m := make([]bool, n)
		for i := range m {
			m[i] = i%3 == 0
		}
		got := Lits(m)
		if len(got) != min(n, lits.MaxVar) {
			t.Fatal(n, len(got))
		}
		for i, l := range got {
			if lits.Var(l) != i+1 || lits.Negated(l) == m[i] {
				t.Fatal(n, i, l)
			}
		}
	}
}

func TestModel(t *testing.T) {
	last := make([]bool, lits.MaxVar)
	last[lits.MaxVar-1] = true
	for i, c := range []struct {
		vars int
		l    []lits.Lit
		want []bool
		e    api.Errno
	}{
		{0, nil, nil, api.OK}, {0, []lits.Lit{}, nil, api.OK}, {3, nil, make([]bool, 3), api.OK}, {lits.MaxVar, nil, make([]bool, lits.MaxVar), api.OK},
		{3, []lits.Lit{2}, []bool{false, true, false}, api.OK}, {3, []lits.Lit{-2}, []bool{false, false, false}, api.OK},
		{3, []lits.Lit{3, -1, 3, 1}, nil, ErrModel}, {3, []lits.Lit{3, -1, 3, -1}, []bool{false, false, true}, api.OK}, {3, []lits.Lit{3, 1, 2}, []bool{true, true, true}, api.OK},
		{lits.MaxVar, []lits.Lit{lits.MaxVar}, last, api.OK}, {lits.MaxVar, []lits.Lit{-lits.MaxVar, -1}, make([]bool, lits.MaxVar), api.OK},
		{1, []lits.Lit{1, -1}, nil, ErrModel}, {1, []lits.Lit{-1, 1}, nil, ErrModel}, {1, []lits.Lit{1, 1, 1}, []bool{true}, api.OK}, {1, []lits.Lit{-1, -1, 1}, nil, ErrModel},
		{0, []lits.Lit{1}, nil, ErrLit}, {0, []lits.Lit{-1}, nil, ErrLit}, {3, []lits.Lit{4}, nil, ErrLit}, {3, []lits.Lit{-4}, nil, ErrLit}, {3, []lits.Lit{1, 2, 4}, nil, ErrLit},
		{3, []lits.Lit{4, -4}, nil, ErrLit}, {3, []lits.Lit{1, -1, 4}, nil, ErrModel}, {3, []lits.Lit{1, 4, -1}, nil, ErrLit}, {3, []lits.Lit{1, -1, 0}, nil, ErrModel},
		{3, []lits.Lit{1, 0, -1}, nil, ErrLit}, {3, []lits.Lit{1, 2, -2, 0, -1}, nil, ErrModel}, {lits.MaxVar - 1, []lits.Lit{lits.MaxVar}, nil, ErrLit},
		{2, slices.Repeat([]lits.Lit{-1, 2}, clauses.MaxLits), []bool{false, true}, api.OK},
	} {
		if got, e := Model(c.vars, c.l); !slices.Equal(got, c.want) || e != c.e {
			t.Error(i, len(got), e)
		}
	}
}

func TestModelOfAllShortLists(t *testing.T) {
	for _, l := range lists() {
		for vars := range 4 {
			want, e := make([]bool, vars), api.OK
			for i, x := range l {
				switch {
				case e != api.OK:
				case lits.Var(x) > vars:
					want, e = nil, ErrLit
				case slices.Contains(l[:i], -x):
					want, e = nil, ErrModel
				default:
					want[lits.Var(x)-1] = x > 0
				}
			}
			if got, f := Model(vars, l); !slices.Equal(got, want) || f != e {
				t.Fatal(vars, l, got, f)
			}
		}
	}
}

func TestModelOfNoVariablesAndNoLiterals(t *testing.T) {
	for _, vars := range noVars() {
		for _, l := range [][]lits.Lit{nil, {1}, {0}, {1, -1}} {
			if m, e := Model(vars, l); m != nil || e != ErrVars {
				t.Error(vars, l, len(m), e)
			}
		}
	}
	for _, n := range noLits() {
		for _, l := range [][]lits.Lit{{n}, {1, n}, {n, 1}, {1, n, -1}} {
			if m, e := Model(lits.MaxVar, l); m != nil || e != ErrLit {
				t.Error(l, len(m), e)
			}
		}
	}
}

func TestLitsAndModelsTellTheSame(t *testing.T) {
	for vars := range 8 {
		for _, m := range models(vars) {
			l := Lits(m)
			if got, e := Model(vars, l); !slices.Equal(got, m) || e != api.OK {
				t.Fatal(m, got, e)
			}
			slices.Reverse(l)
			if got, e := Model(vars, l); !slices.Equal(got, m) || e != api.OK {
				t.Fatal(m, got, e)
			}
		}
	}
}

// P5.6

func TestModelsWithALiteralAndWithItsNegation(t *testing.T) {
	for _, f := range formulas() {
		for v := 1; v <= f.Vars; v++ {
			var both [][]bool
			for _, l := range []lits.Lit{lits.Lit(-v), lits.Lit(v)} {
				left, e := Assign(f, l)
				if e != api.OK {
					t.Fatal(f, l, e)
				}
				for _, m := range collected(t, left) {
					if isTrue(l, m) {
						both = append(both, m)
					}
				}
			}
			all := collected(t, f)
			for _, m := range all {
				if !slices.ContainsFunc(both, func(n []bool) bool { return slices.Equal(m, n) }) {
					t.Fatal(f, v, m)
				}
			}
			if len(all) != len(both) {
				t.Fatal(f, v, all, both)
			}
		}
	}
}

func TestTheNormalFormHasTheSameModelsAndIsItsOwn(t *testing.T) {
	for _, f := range formulas() {
		norm, e := Norm(f)
		again, e2 := Norm(norm)
		if e != api.OK || e2 != api.OK || !Same(norm, again) || !sameModels(collected(t, norm), collected(t, f)) {
			t.Fatal(f, norm, again)
		}
		if _, e := Check(norm); e != api.OK {
			t.Fatal(f, norm, e)
		}
	}
}

func TestAClauseMoreLeavesNoMoreModels(t *testing.T) {
	d := draws(9)
	for _, f := range formulas() {
		if f.Vars == 0 {
			continue
		}
		more := Copy(f)
		more.Clauses = append(more.Clauses, clause{d.lit(f.Vars), d.lit(f.Vars)})
		all := collected(t, f)
		for _, m := range collected(t, more) {
			if !slices.ContainsFunc(all, func(n []bool) bool { return slices.Equal(m, n) }) {
				t.Fatal(f, more, m)
			}
		}
	}
}

// What holds of all functions.

func TestWrongFormulasComeFirst(t *testing.T) {
	for i, w := range wrongFormulas() {
		for _, m := range [][]bool{nil, {true}, {true, false, true}} {
			if value, e := Value(w.f, m); value || e != w.e {
				t.Error(i, value, e)
			}
			if n, fails, e := Fails(w.f, m); n != 0 || fails || e != w.e {
				t.Error(i, n, fails, e)
			}
		}
		if seq, e := Models(w.f); seq != nil || e != w.e {
			t.Error(i, e)
		}
		if n, e := Count(w.f); n != 0 || e != w.e {
			t.Error(i, n, e)
		}
		if m, ok, e := First(w.f); m != nil || ok || e != w.e {
			t.Error(i, m, ok, e)
		}
		for _, l := range []lits.Lit{0, 1, -1, 9, math.MinInt} {
			if g, e := Assign(w.f, l); !equal(g, Formula{}) || e != w.e {
				t.Error(i, l, e)
			}
		}
		if g, e := Norm(w.f); !equal(g, Formula{}) || e != w.e {
			t.Error(i, e)
		}
	}
}

// sealed returns a formula each of whose lists has spare memory behind it, and a function that reports whether all of it is as it was.
func sealed(f Formula) (Formula, func() bool) {
	g := Formula{f.Vars, make([]clause, 0, len(f.Clauses)+2)}
	for _, c := range f.Clauses {
		g.Clauses = append(g.Clauses, append(make(clause, 0, len(c)+2), c...))
	}
	return g, func() bool {
		for _, c := range g.Clauses {
			if spare := c[len(c):cap(c)]; spare[0] != 0 || spare[1] != 0 {
				return false
			}
		}
		spare := g.Clauses[len(g.Clauses):cap(g.Clauses)]
		return equal(f, g) && spare[0] == nil && spare[1] == nil
	}
}

func TestArgumentsStay(t *testing.T) {
	for _, f := range formulas() {
		g, stays := sealed(f)
		m := append(make([]bool, f.Vars, f.Vars+2), []bool{}...)
		Check(g)
		Same(g, f)
		Copy(g)
		Value(g, m)
		Fails(g, m)
		collected(t, g)
		Count(g)
		First(g)
		for v := 1; v <= f.Vars; v++ {
			Assign(g, lits.Lit(v))
			Assign(g, lits.Lit(-v))
		}
		Norm(g)
		for _, c := range g.Clauses {
			Holds(c, m)
			Model(g.Vars, c)
		}
		l := Lits(m)
		Model(g.Vars, l)
		if !stays() || slices.Contains(m[:cap(m)], true) || !slices.Equal(l, Lits(m)) {
			t.Fatal(f, g, m, l)
		}
	}
}

func TestResultsShareNoMemory(t *testing.T) {
	for _, f := range formulas() {
		g, stays := sealed(f)
		norm, _ := Norm(g)
		again, _ := Norm(g)
		keep := copied(again)
		spoil(norm)
		spoil(Copy(g))
		for v := 1; v <= f.Vars; v++ {
			for _, l := range []lits.Lit{lits.Lit(v), lits.Lit(-v)} {
				left, _ := Assign(g, l)
				spoil(left)
			}
		}
		if !stays() || !equal(again, keep) {
			t.Fatal(f, g)
		}
	}
}

func TestListsOfAResultShareNoMemory(t *testing.T) {
	shared := clause{3, -2, 1}
	f := of(4, shared, shared[:2], shared, shared[1:], nil, clause{-4, 2}, shared[:0])
	norm, _ := Norm(f)
	left, _ := Assign(f, 4)
	for i, g := range []Formula{Copy(f), norm, left} {
		for j := range g.Clauses {
			want := copied(g)
			want.Clauses[j] = slices.Repeat(clause{99}, len(want.Clauses[j]))
			c := g.Clauses[j][:cap(g.Clauses[j])]
			for k := range c {
				c[k] = 99
			}
			if !equal(g, want) {
				t.Fatal(i, j, g)
			}
		}
	}
	if !equal(f, of(4, clause{3, -2, 1}, clause{3, -2}, clause{3, -2, 1}, clause{-2, 1}, nil, clause{-4, 2}, nil)) {
		t.Error(f)
	}
}

func TestListsOfLiteralsAndValuesShareNoMemory(t *testing.T) {
	m := []bool{true, false, true}
	l, other := Lits(m), Lits(m)
	first, _ := Model(3, l)
	second, _ := Model(3, l)
	l[0], first[1] = -1, true
	if !slices.Equal(m, []bool{true, false, true}) || !slices.Equal(other, []lits.Lit{1, -2, 3}) || !slices.Equal(second, m) {
		t.Error(m, other, second)
	}
}
