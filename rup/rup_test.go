package rup

import (
	"math"
	"slices"
	"testing"

	"salvor/api"
	"salvor/clauses"
	"salvor/lits"
)

type clause = clauses.Clause

// draws is a row of numbers that look as if they were drawn, the same ones each time.
type draws uint64

func (d *draws) below(bound int) int {
	*d = *d*6364136223846793005 + 1442695040888963407
	return int(uint64(*d)>>33) % bound
}

// lit draws a literal of some variables.
func (d *draws) lit(vars int) lits.Lit {
	return lits.Lit(1+d.below(vars)) * lits.Lit(1-2*d.below(2))
}

// clause draws a clause; literals stand in it twice, or with their negations, now and then.
func (d *draws) clause(vars, most int) clause {
	var c clause
	for range d.below(most + 1) {
		c = append(c, d.lit(vars))
	}
	return c
}

// list draws clauses, of which the empty one comes seldom.
func (d *draws) list(vars, most int) []clause {
	var l []clause
	for range d.below(most + 1) {
		c := d.clause(vars, 3)
		if len(c) > 0 || d.below(8) == 0 {
			l = append(l, c)
		}
	}
	return l
}

// question is a clause, and others of which it may follow.
type question struct {
	c clause
	l []clause
}

// questions are some of one and two clauses, and many that are drawn.
func questions() []question {
	var l []question
	short := upTo(2, 2)
	for _, c := range short {
		l = append(l, question{c, nil})
		for _, x := range short {
			l = append(l, question{c, []clause{x}})
			for _, y := range short {
				l = append(l, question{c, []clause{x, y}})
			}
		}
	}
	d := draws(8)
	for range 6000 {
		vars := 2 + d.below(5)
		q := question{d.clause(vars, 2), d.list(vars, 3*vars)}
		if d.below(2) == 0 {
			// Few clauses are unit at the beginning, so that more of them have to be taken.
			q.l = nil
			for range 2 * vars {
				q.l = append(q.l, clause{d.lit(vars), d.lit(vars)})
			}
		}
		l = append(l, q)
	}
	return l
}

// upTo are all lists of so many literals, at most, of some variables.
func upTo(vars, length int) []clause {
	l := []clause{nil}
	begin := 0
	for range length {
		end := len(l)
		for _, c := range l[begin:end] {
			for v := 1; v <= vars; v++ {
				l = append(l, append(slices.Clone(c), lits.Lit(v)), append(slices.Clone(c), lits.Lit(-v)))
			}
		}
		begin = end
	}
	return l
}

// assignments are all right lists in which each of some variables is there once, or not; some are in another order, and some have a literal twice.
func assignments(vars int) [][]lits.Lit {
	all := [][]lits.Lit{nil}
	for v := 1; v <= vars; v++ {
		for _, a := range all {
			x := lits.Lit(v)
			all = append(all, append(slices.Clone(a), x), append([]lits.Lit{-x}, a...))
		}
	}
	for _, a := range all {
		if len(a) > 0 {
			all = append(all, append(slices.Clone(a), a[0]))
		}
	}
	return all
}

// noLits are numbers that are no literals.
func noLits() []lits.Lit {
	return []lits.Lit{0, lits.MaxVar + 1, -lits.MaxVar - 1, 1<<32 + 1, math.MaxInt, math.MinInt}
}

// noClauses are lists that are no clauses.
func noClauses() []clause {
	l := []clause{slices.Repeat(clause{1}, clauses.MaxLits+1), slices.Repeat(clause{1, -1}, clauses.MaxLits)}
	for _, n := range noLits() {
		l = append(l, clause{n}, clause{n, 1, -1}, clause{1, n, -1}, clause{1, -1, n}, clause{-2, 3, n}, clause{n, n})
	}
	return l
}

// noAssigned are lists that have no assigned literals.
func noAssigned() [][]lits.Lit {
	l := [][]lits.Lit{{1, -1}, {-1, 1}, {2, 1, 3, -2}, {1, 1, -1}, {lits.MaxVar, -lits.MaxVar}, {-5, 4, 3, 2, 1, 5}}
	for _, n := range noLits() {
		l = append(l, []lits.Lit{n}, []lits.Lit{n, 1}, []lits.Lit{1, n, -2}, []lits.Lit{1, -2, n}, []lits.Lit{n, n})
	}
	return l
}

// many returns a clause so many times.
func many(c clause, times int) []clause { return slices.Repeat([]clause{c}, times) }

// kindOf returns what a clause is, from what the words say.
func kindOf(c clause, assigned []lits.Lit) (uint8, lits.Lit) {
	var left []lits.Lit
	for _, x := range c {
		if slices.Contains(assigned, x) {
			return 1, 0
		}
		if !slices.Contains(assigned, -x) && !slices.Contains(left, x) {
			left = append(left, x)
		}
	}
	switch len(left) {
	case 0:
		return 2, 0
	case 1:
		return 3, left[0]
	}
	return 4, 0
}

// isAlways reports whether a clause holds always.
func isAlways(c clause) bool {
	return slices.ContainsFunc(c, func(x lits.Lit) bool { return slices.Contains(c, -x) })
}

// negated returns the negations of literals.
func negated(c clause) []lits.Lit {
	var l []lits.Lit
	for _, x := range c {
		l = append(l, -x)
	}
	return l
}

// outcome is what comes of following hints.
type outcome struct {
	assigned []lits.Lit
	index    int
	conflict bool
	e        api.Errno
}

func (o outcome) same(p outcome) bool {
	return slices.Equal(o.assigned, p.assigned) && o.index == p.index && o.conflict == p.conflict && o.e == p.e
}

// following returns what comes of following hints, one by one.
func following(assigned []lits.Lit, hints []clause) outcome {
	o := outcome{assigned: slices.Clone(assigned)}
	for len(hints) > o.index && !o.conflict {
		kind, x := kindOf(hints[o.index], o.assigned)
		if kind != 2 && kind != 3 {
			return outcome{index: o.index, e: 81}
		}
		if kind == 3 {
			o.assigned = append(o.assigned, x)
		}
		o.conflict = kind == 2
		o.index++
	}
	return o
}

// checked returns what Check says.
func checked(c clause, hints []clause) (int, api.Errno) {
	if isAlways(c) {
		return 0, 0
	}
	o := following(negated(c), hints)
	if o.e == 0 && !o.conflict {
		o.e = 82
	}
	return o.index, o.e
}

// trimmed returns which hints of those that are right are needed.
func trimmed(c clause, hints []clause) []int {
	if isAlways(c) {
		return nil
	}
	o := following(negated(c), hints)
	units := o.assigned[len(c):]
	needed := []int{len(units)}
	for i := len(units) - 1; i >= 0; i-- {
		if slices.ContainsFunc(needed, func(j int) bool { return slices.Contains(hints[j], -units[i]) }) {
			needed = append([]int{i}, needed...)
		}
	}
	return needed
}

// searched returns what Find finds, by looking at all clauses again and again.
func searched(c clause, l []clause) ([]int, bool) {
	if isAlways(c) {
		return nil, true
	}
	assigned := negated(c)
	var taken []int
	var hints []clause
	for {
		fails := slices.IndexFunc(l, func(d clause) bool { kind, _ := kindOf(d, assigned); return kind == 2 })
		unit := slices.IndexFunc(l, func(d clause) bool { kind, _ := kindOf(d, assigned); return kind == 3 })
		switch {
		case fails >= 0:
			taken, hints = append(taken, fails), append(hints, l[fails])
			var needed []int
			for _, i := range trimmed(c, hints) {
				needed = append(needed, taken[i])
			}
			return needed, true
		case unit < 0:
			return nil, false
		}
		taken, hints = append(taken, unit), append(hints, l[unit])
		_, x := kindOf(l[unit], assigned)
		assigned = append(assigned, x)
	}
}

// picked returns the clauses with some indexes.
func picked(l []clause, indexes []int) []clause {
	var p []clause
	for _, i := range indexes {
		p = append(p, l[i])
	}
	return p
}

// holdsIn reports whether a clause holds in a model, a bit for each variable.
func holdsIn(c clause, model int) bool {
	return slices.ContainsFunc(c, func(x lits.Lit) bool { return (model>>lits.Var(x)&1 == 1) == (x > 0) })
}

// entailed reports whether a clause holds in all models of 6 variables in which the others do.
func entailed(c clause, l []clause) bool {
	for model := 0; model < 1<<7; model += 2 {
		fails := func(d clause) bool { return !holdsIn(d, model) }
		if !slices.ContainsFunc(l, fails) && fails(c) {
			return false
		}
	}
	return true
}

func TestConstants(t *testing.T) {
	if Holds != 1 || Fails != 2 || Unit != 3 || Open != 4 || MaxHints != 65536 || ErrAssigned != 80 || ErrHint != 81 || ErrEnd != 82 {
		t.Error(Holds, Fails, Unit, Open, MaxHints, ErrAssigned, ErrHint, ErrEnd)
	}
}

func TestExamples(t *testing.T) {
	for i, k := range []struct {
		c    clause
		kind uint8
		x    lits.Lit
	}{
		{clause{1, -2}, Fails, 0}, {clause{1, 3}, Unit, 3}, {clause{1, 3, 3}, Unit, 3}, {clause{2, 5}, Holds, 0},
		{clause{3, 4}, Open, 0}, {clause{}, Fails, 0}, {nil, Fails, 0},
	} {
		if kind, x, e := Look(k.c, []lits.Lit{-1, 2}); kind != k.kind || x != k.x || e != api.OK {
			t.Error(i, kind, x, e)
		}
	}
	for i, k := range []struct {
		c     clause
		hints []clause
		n     int
		e     api.Errno
	}{
		{clause{3}, []clause{{1, 3}, {-1, 3}}, 2, api.OK}, {clause{3}, []clause{{-1, 3}, {1, 3}}, 2, api.OK},
		{clause{3}, []clause{{1, 2}, {1, 3}, {-1, 3}}, 0, ErrHint}, {clause{3}, []clause{{1, 3}}, 1, ErrEnd}, {clause{2, -2}, nil, 0, api.OK},
	} {
		if n, e := Check(k.c, k.hints); n != k.n || e != k.e {
			t.Error(i, n, e)
		}
	}
	found, ok, e := Find(clause{3}, []clause{{5, 6}, {1, 3}, {3, -4}, {-1, 3}})
	if !slices.Equal(found, []int{1, 3}) || !ok || e != api.OK {
		t.Error(found, ok, e)
	}
}

// P8.1

func TestRight(t *testing.T) {
	for _, a := range append(assignments(3), nil, []lits.Lit{}, []lits.Lit{7, 7, 7}, []lits.Lit{-7, -7}, []lits.Lit{lits.MaxVar, 1, -2}, []lits.Lit{-lits.MaxVar}) {
		if !Right(a) {
			t.Error(a)
		}
	}
	for _, a := range noAssigned() {
		if Right(a) {
			t.Error(a)
		}
	}
	long := make([]lits.Lit, lits.MaxVar)
	for i := range long {
		long[i] = lits.Lit(lits.MaxVar - i)
	}
	if !Right(long) || Right(append(long, -7)) || Right(append(long, 0)) {
		t.Error("long")
	}
}

func TestLook(t *testing.T) {
	seen := map[uint8]int{}
	for _, c := range upTo(3, 3) {
		for _, a := range assignments(3) {
			kind, x, e := Look(c, a)
			wantKind, wantX := kindOf(c, a)
			if kind != wantKind || x != wantX || e != api.OK {
				t.Fatal(c, a, kind, x, e)
			}
			seen[kind]++
		}
	}
	if len(seen) != 4 {
		t.Error(seen)
	}
}

func TestLookAtTheLimits(t *testing.T) {
	longest := slices.Repeat(clause{lits.MaxVar, -5}, clauses.MaxLits/2)
	for i, k := range []struct {
		c    clause
		a    []lits.Lit
		kind uint8
		x    lits.Lit
	}{
		{longest, []lits.Lit{5}, Unit, lits.MaxVar}, {longest, []lits.Lit{-lits.MaxVar}, Unit, -5}, {longest, nil, Open, 0},
		{longest, []lits.Lit{5, -lits.MaxVar}, Fails, 0}, {longest, []lits.Lit{-5}, Holds, 0}, {longest, []lits.Lit{lits.MaxVar, 5, 5}, Holds, 0},
		{clause{-lits.MaxVar}, nil, Unit, -lits.MaxVar}, {clause{-lits.MaxVar}, []lits.Lit{lits.MaxVar}, Fails, 0},
		// One that is open, or unit, on the way may still hold.
		{clause{1, 2, 3, 4}, []lits.Lit{4}, Holds, 0}, {clause{1, 2, 3}, []lits.Lit{-1, 3}, Holds, 0}, {clause{1, -1}, nil, Open, 0},
		{clause{1, -1}, []lits.Lit{1}, Holds, 0}, {clause{1, -1}, []lits.Lit{-1}, Holds, 0}, {clause{1, 2, 1}, nil, Open, 0},
		{clause{1, 2, 3, 1, 2}, []lits.Lit{-3, -1}, Unit, 2},
	} {
		if kind, x, e := Look(k.c, k.a); kind != k.kind || x != k.x || e != api.OK {
			t.Error(i, kind, x, e)
		}
	}
}

func TestLookRefuses(t *testing.T) {
	for _, c := range noClauses() {
		for _, a := range append(noAssigned(), nil, []lits.Lit{1}) {
			if kind, x, e := Look(c, a); kind != 0 || x != 0 || e != clauses.ErrClause {
				t.Error(c, a, kind, x, e)
			}
		}
	}
	for _, a := range noAssigned() {
		for _, c := range []clause{nil, {1}, {1, -1}, {7}} {
			if kind, x, e := Look(c, a); kind != 0 || x != 0 || e != ErrAssigned {
				t.Error(c, a, kind, x, e)
			}
		}
	}
}

func TestAssume(t *testing.T) {
	for i, k := range []struct {
		c, want clause
		always  bool
	}{
		{nil, nil, false}, {clause{}, nil, false}, {clause{3}, clause{-3}, false}, {clause{-3, 2, 1}, clause{-1, -2, 3}, false},
		{clause{2, 2, -1, 2}, clause{1, -2}, false}, {clause{2, -2}, nil, true}, {clause{1, -2, 3, 2}, nil, true}, {clause{1, 1, -1}, nil, true},
		{clause{lits.MaxVar, -lits.MaxVar + 1}, clause{lits.MaxVar - 1, -lits.MaxVar}, false},
	} {
		if a, always, e := Assume(k.c); !slices.Equal(a, k.want) || always != k.always || e != api.OK {
			t.Error(i, a, always, e)
		}
	}
	for _, c := range upTo(3, 4) {
		a, always, e := Assume(c)
		if always != isAlways(c) || e != api.OK {
			t.Fatal(c, a, always, e)
		}
		for i := range a {
			if !slices.Contains(c, -a[i]) || i > 0 && lits.Compare(a[i-1], a[i]) >= 0 {
				t.Fatal(c, a)
			}
		}
		for _, x := range c {
			if slices.Contains(a, -x) == always {
				t.Fatal(c, a)
			}
		}
		if !Right(a) {
			t.Fatal(c, a)
		}
	}
	for _, c := range noClauses() {
		if a, always, e := Assume(c); len(a) != 0 || always || e != clauses.ErrClause {
			t.Error(c, a, always, e)
		}
	}
}

// P8.2

func followed(assigned []lits.Lit, hints []clause) outcome {
	a, n, conflict, e := Follow(assigned, hints)
	return outcome{a, n, conflict, e}
}

func TestFollow(t *testing.T) {
	for i, k := range []struct {
		a     []lits.Lit
		hints []clause
		want  outcome
	}{
		{nil, nil, outcome{}},
		{[]lits.Lit{2, -1, 2}, nil, outcome{[]lits.Lit{2, -1, 2}, 0, false, 0}},
		{[]lits.Lit{2, -1, 2}, []clause{{1, 3}, {4, -3, 4}}, outcome{[]lits.Lit{2, -1, 2, 3, 4}, 2, false, 0}},
		{nil, []clause{{3}, {-3, -2}, {2}}, outcome{[]lits.Lit{3, -2}, 3, true, 0}},
		{nil, []clause{nil}, outcome{nil, 1, true, 0}},
		{[]lits.Lit{1}, []clause{{}, {7, 8}, {1}}, outcome{[]lits.Lit{1}, 1, true, 0}},
		{[]lits.Lit{1}, []clause{{-1, 2}, {-2}, {5, 6}, {1}, {-5, 5}}, outcome{[]lits.Lit{1, 2}, 2, true, 0}},
		{[]lits.Lit{1}, []clause{{-1, 2}, {2}, {-2}}, outcome{nil, 1, false, 81}},
		{[]lits.Lit{1}, []clause{{3, 4}}, outcome{nil, 0, false, 81}},
		{[]lits.Lit{1}, []clause{{1}}, outcome{nil, 0, false, 81}},
		{[]lits.Lit{1}, []clause{{-1, 2}, {-1, 2}}, outcome{nil, 1, false, 81}},
		{nil, []clause{{1}, {2}, {3, -3}}, outcome{nil, 2, false, 81}},
		{[]lits.Lit{-3}, []clause{{3, -3}}, outcome{nil, 0, false, 81}},
	} {
		if o := followed(k.a, k.hints); !o.same(k.want) {
			t.Error(i, o)
		}
	}
}

func TestFollowAllShortHints(t *testing.T) {
	short := upTo(2, 2)
	for _, a := range assignments(2) {
		for _, x := range short {
			for _, y := range short {
				for _, z := range short {
					for _, hints := range [][]clause{{x}, {x, y}, {x, y, z}} {
						if o := followed(a, hints); !o.same(following(a, hints)) {
							t.Fatal(a, hints, o)
						}
					}
				}
			}
		}
	}
}

func TestFollowDrawnHints(t *testing.T) {
	d := draws(82)
	conflicts := 0
	for range 20000 {
		vars := 3 + d.below(5)
		a, always, _ := Assume(d.clause(vars, 4))
		if always {
			continue
		}
		// Hints that are mostly right, since each is drawn until it is.
		want := outcome{assigned: a}
		var hints []clause
		for range d.below(9) {
			for range 1 + d.below(30) {
				c := d.clause(vars, 4)
				if o := following(a, append(slices.Clone(hints), c)); o.e == 0 {
					hints = append(hints, c)
					break
				}
			}
		}
		if d.below(3) == 0 {
			hints = append(hints, d.clause(vars, 3), d.clause(vars, 3))
		}
		want = following(a, hints)
		if o := followed(a, hints); !o.same(want) {
			t.Fatal(a, hints, o, want)
		}
		if want.conflict {
			conflicts++
		}
	}
	if conflicts < 1000 {
		t.Error(conflicts)
	}
}

func TestFollowRefuses(t *testing.T) {
	none := noClauses()
	for _, c := range none {
		for _, hints := range [][]clause{{c}, {{1}, c}, {nil, c}, {c, nil}, {{1, 2}, c}, {{1}, {-1}, {7, 8}, c}} {
			for _, a := range [][]lits.Lit{nil, {1}, {1, -1}, {0}} {
				if o := followed(a, hints); !o.same(outcome{e: clauses.ErrClause}) {
					t.Error(a, hints, o)
				}
			}
		}
	}
	tooMany := many(nil, MaxHints+1)
	for _, a := range noAssigned() {
		for _, hints := range [][]clause{nil, {nil}, {{1}}, {{1, 2}}, tooMany} {
			if o := followed(a, hints); !o.same(outcome{e: ErrAssigned}) {
				t.Error(a, o)
			}
		}
	}
	for _, a := range [][]lits.Lit{nil, {1}} {
		if o := followed(a, tooMany); !o.same(outcome{e: api.ErrMany}) {
			t.Error(o)
		}
		if o := followed(a, many(clause{1, -1}, MaxHints+1)); !o.same(outcome{e: api.ErrMany}) {
			t.Error(o)
		}
		if o := followed(a, append(tooMany, clause{0})); !o.same(outcome{e: clauses.ErrClause}) {
			t.Error(o)
		}
	}
}

// chain are clauses each of which is unit behind the one before, from the variable 1 on, and one that fails at the end.
func chain(length int) []clause {
	l := []clause{{1}}
	for v := lits.Lit(1); len(l) < length-1; v++ {
		l = append(l, clause{-v, v + 1})
	}
	return append(l, clause{-lits.Lit(length - 1)})
}

func TestFollowManyHints(t *testing.T) {
	l := chain(MaxHints)
	a, n, conflict, e := Follow(nil, l)
	if len(a) != MaxHints-1 || a[0] != 1 || a[MaxHints-2] != MaxHints-1 || n != MaxHints || !conflict || e != api.OK {
		t.Error(len(a), n, conflict, e)
	}
	l[MaxHints-1] = clause{1, 2}
	if o := followed(nil, l); !o.same(outcome{index: MaxHints - 1, e: ErrHint}) {
		t.Error(o.index, o.e)
	}
	l[MaxHints-1] = clause{lits.MaxVar, -1}
	a, n, conflict, e = Follow([]lits.Lit{-lits.MaxVar + 1}, l)
	if len(a) != MaxHints+1 || a[0] != -lits.MaxVar+1 || a[MaxHints] != lits.MaxVar || n != MaxHints || conflict || e != api.OK {
		t.Error(len(a), n, conflict, e)
	}
}

// P8.3

func TestCheck(t *testing.T) {
	for i, k := range []struct {
		c     clause
		hints []clause
		n     int
		e     api.Errno
	}{
		{nil, nil, 0, ErrEnd}, {clause{}, []clause{}, 0, ErrEnd}, {clause{1}, nil, 0, ErrEnd}, {nil, []clause{nil}, 1, api.OK},
		{nil, []clause{{1}, {-1}}, 2, api.OK}, {nil, []clause{{1}}, 1, ErrEnd}, {nil, []clause{{1, 2}}, 0, ErrHint},
		{clause{1}, []clause{{1}}, 1, api.OK}, {clause{1, 2}, []clause{{2, 2, 1}}, 1, api.OK}, {clause{1, 2}, []clause{{2}}, 1, api.OK},
		{clause{1, 1}, []clause{{1}}, 1, api.OK}, {clause{1}, []clause{{2}}, 1, ErrEnd}, {clause{1}, []clause{{-1}}, 0, ErrHint},
		{clause{1}, []clause{{2, 1}, {-1, 2}}, 1, ErrHint}, {clause{1}, []clause{{1, -1}, {1}}, 0, ErrHint},
		{clause{1}, []clause{{1}, {2, 3}, {-1}}, 1, api.OK}, {clause{1}, []clause{{2, 2}, {-2, -2, 1}}, 2, api.OK},
		{clause{2, -2}, []clause{{5, 6}, nil}, 0, api.OK}, {clause{2, 3, -2}, []clause{{2}}, 0, api.OK},
		{clause{lits.MaxVar}, []clause{{lits.MaxVar, -lits.MaxVar + 1}, {lits.MaxVar - 1}}, 2, api.OK},
	} {
		if n, e := Check(k.c, k.hints); n != k.n || e != k.e {
			t.Error(i, n, e)
		}
	}
}

func TestCheckLikeTheModel(t *testing.T) {
	seen := map[api.Errno]int{}
	for _, q := range questions() {
		n, e := Check(q.c, q.l)
		if wantN, wantE := checked(q.c, q.l); n != wantN || e != wantE {
			t.Fatal(q, n, e)
		}
		seen[e]++
	}
	if len(seen) != 3 {
		t.Error(seen)
	}
}

func TestCheckManyHints(t *testing.T) {
	l := chain(MaxHints)
	if n, e := Check(nil, l); n != MaxHints || e != api.OK {
		t.Error(n, e)
	}
	l[MaxHints-1] = clause{lits.MaxVar}
	if n, e := Check(clause{lits.MaxVar}, l); n != MaxHints || e != api.OK {
		t.Error(n, e)
	}
	if n, e := Check(clause{-lits.MaxVar}, l); n != MaxHints-1 || e != ErrHint {
		t.Error(n, e)
	}
	if n, e := Check(clause{lits.MaxVar - 1}, l); n != MaxHints || e != ErrEnd {
		t.Error(n, e)
	}
	long := slices.Repeat(clause{2}, clauses.MaxLits)
	if n, e := Check(long, []clause{long}); n != 1 || e != api.OK {
		t.Error(n, e)
	}
}

// refusals are clauses and lists that Check, Find and Trim refuse, with the errors.
func refusals() map[api.Errno][]question {
	tooMany := many(nil, MaxHints+1)
	l := map[api.Errno][]question{
		api.ErrMany: {{nil, tooMany}, {clause{1}, tooMany}, {clause{1, -1}, tooMany}, {nil, many(clause{1, 2}, MaxHints+1)}},
	}
	for _, c := range noClauses() {
		l[clauses.ErrClause] = append(l[clauses.ErrClause], question{c, nil}, question{c, []clause{nil}}, question{nil, []clause{c}},
			question{clause{1, -1}, []clause{c}}, question{nil, []clause{nil, c}}, question{clause{1}, []clause{{2, 3}, c}},
			question{clause{1}, []clause{{1}, {-1}, c, {4, 5}}})
	}
	l[clauses.ErrClause] = append(l[clauses.ErrClause], question{clause{0}, tooMany}, question{nil, append(slices.Clone(tooMany), clause{0})},
		question{clause{1, -1}, append(slices.Clone(tooMany), clause{0})})
	return l
}

func TestRefusals(t *testing.T) {
	for want, l := range refusals() {
		for _, q := range l {
			n, e := Check(q.c, q.l)
			found, ok, f := Find(q.c, q.l)
			needed, g := Trim(q.c, q.l)
			if n != 0 || len(found) != 0 || ok || len(needed) != 0 || e != want || f != want || g != want {
				t.Error(q.c, len(q.l), n, found, ok, needed, e, f, g)
			}
		}
	}
}

// P8.4

func TestFind(t *testing.T) {
	for i, k := range []struct {
		c     clause
		l     []clause
		found []int
		ok    bool
	}{
		{nil, nil, nil, false}, {clause{}, []clause{}, nil, false}, {clause{1}, nil, nil, false}, {clause{1, 2, -1}, nil, nil, true},
		{clause{1, -1}, []clause{nil, {1}, {2}}, nil, true}, {nil, []clause{nil}, []int{0}, true}, {clause{5}, []clause{{1}, {-1}, nil, {}}, []int{2}, true},
		{clause{1}, []clause{{1, -1}, {2, 3}}, nil, false}, {clause{1}, []clause{{-1}, {2}}, nil, false},
		// The first one that fails goes, although others were unit before it.
		{clause{1}, []clause{{2}, {1, 1}, {1}}, []int{1}, true},
		{clause{1, 2}, []clause{{3}, {2, 1, 2}, {1}}, []int{1}, true},
		// The first one that is unit goes; several fail behind it.
		{nil, []clause{{-1, 2}, {-1, -2}, {1}, {-2, -1}, {1, 1}, {-1}}, []int{2, 5}, true},
		{nil, []clause{{-3, 2}, {-2, -3}, {3}, {-3, -2}}, []int{2, 0, 1}, true},
		// A literal that is there twice counts once.
		{nil, []clause{{2, 2}, {-2, 3, 3, -2}, {-3, -2, -3}}, []int{0, 1, 2}, true},
		// 5 and 6 are not needed, nor 7, of which the negation is in the clause of 6 alone.
		{nil, []clause{{7}, {6, -7}, {-6, 5}, {1}, {-1, 2}, {-2, -1}}, []int{3, 4, 5}, true},
		{clause{3}, []clause{{4, 3}, {-4, 5}, {2}, {-5, -2}}, []int{0, 1, 2, 3}, true},
		{clause{3}, []clause{{1, 2, 3}, {-1, 2, 3}, {-2, 1, 3}, {-1, -2, 3}}, nil, false},
		{clause{-lits.MaxVar}, []clause{{-lits.MaxVar, 1}, {lits.MaxVar, 2}, {-1, -lits.MaxVar}}, []int{0, 2}, true},
	} {
		if found, ok, e := Find(k.c, k.l); !slices.Equal(found, k.found) || ok != k.ok || e != api.OK {
			t.Error(i, found, ok, e)
		}
	}
}

func TestFindLikeTheModel(t *testing.T) {
	seen := map[int]int{}
	for _, q := range questions() {
		found, ok, e := Find(q.c, q.l)
		if want, wantOK := searched(q.c, q.l); !slices.Equal(found, want) || ok != wantOK || e != api.OK {
			t.Fatal(q, found, ok, e, want, wantOK)
		}
		seen[len(found)]++
	}
	for n := range 6 {
		if seen[n] < 10 {
			t.Error(seen)
		}
	}
}

func TestFindAmongManyClauses(t *testing.T) {
	l := chain(MaxHints)
	found, ok, e := Find(nil, l)
	for i, at := range found {
		if at != i {
			t.Fatal(i, at)
		}
	}
	if len(found) != MaxHints || !ok || e != api.OK {
		t.Error(len(found), ok, e)
	}
	// The only clause that is unit is the last one in the list, again and again.
	l[MaxHints-1] = append(l[MaxHints-1], 2-MaxHints)
	slices.Reverse(l)
	found, ok, e = Find(nil, l)
	for i, at := range found {
		if i < MaxHints-2 && at != MaxHints-1-i {
			t.Fatal(i, at)
		}
	}
	if len(found) != MaxHints || found[MaxHints-2] != 0 || found[MaxHints-1] != 1 || !ok || e != api.OK {
		t.Error(len(found), ok, e)
	}
	l[0] = clause{lits.MaxVar}
	if found, ok, e := Find(nil, l); len(found) != 0 || ok || e != api.OK {
		t.Error(len(found), ok, e)
	}
	// Long clauses, of which a literal is gone at a time.
	l = nil
	for v := lits.Lit(1); v <= clauses.MaxLits; v++ {
		l = append(l, nil)
		for w := lits.Lit(1); w < v; w++ {
			l[v-1] = append(l[v-1], -w)
		}
		l[v-1] = append(l[v-1], v)
	}
	l[clauses.MaxLits-1][clauses.MaxLits-1] = -1
	slices.Reverse(l)
	found, ok, e = Find(nil, l)
	if len(found) != clauses.MaxLits || found[0] != clauses.MaxLits-1 || found[clauses.MaxLits-1] != 1 || !ok || e != api.OK {
		t.Error(len(found), ok, e)
	}
}

func TestSearchStopsWhenItIsLeft(t *testing.T) {
	s := begin([]clause{{1}, {2}, {-1, 3}}, nil)
	for i := range s.taking() {
		if i != 0 {
			t.Error(i)
		}
		break
	}
	if s.is[1] {
		t.Error("assigned behind the end")
	}
}

func TestTrim(t *testing.T) {
	for i, k := range []struct {
		c      clause
		hints  []clause
		needed []int
		e      api.Errno
	}{
		{nil, nil, nil, ErrEnd}, {clause{1}, nil, nil, ErrEnd}, {clause{1, -1}, nil, nil, api.OK}, {clause{1, -1}, []clause{{5, 6}}, nil, api.OK},
		{clause{1}, []clause{{1}}, []int{0}, api.OK}, {clause{1}, []clause{{2}}, nil, ErrEnd}, {clause{1}, []clause{{2}, {3, 4}}, nil, ErrHint},
		{clause{1}, []clause{{2}, {1}}, []int{1}, api.OK}, {clause{1}, []clause{{2}, {1}, {3, 4}, {2}}, []int{1}, api.OK}, {nil, []clause{nil}, []int{0}, api.OK},
		{nil, []clause{{1}, {2}, {-1, -2}}, []int{0, 1, 2}, api.OK}, {nil, []clause{{1}, {2}, {-1, 3}, {-2, 4}, {-4}}, []int{1, 3, 4}, api.OK},
		{nil, []clause{{1}, {-1, 2}, {3}, {-3}}, []int{2, 3}, api.OK}, {nil, []clause{{1, 1}, {2, 2}, {3}, {-3, -1, -3, -1}}, []int{0, 2, 3}, api.OK},
		{clause{5}, []clause{{1}, {-1, 2, 5}, {-1, 3}, {-2, -2, 5}}, []int{0, 1, 3}, api.OK},
	} {
		if needed, e := Trim(k.c, k.hints); !slices.Equal(needed, k.needed) || e != k.e {
			t.Error(i, needed, e)
		}
	}
	needed, e := Trim(nil, chain(MaxHints))
	if len(needed) != MaxHints || e != api.OK {
		t.Error(len(needed), e)
	}
}

func TestTrimLikeTheModel(t *testing.T) {
	seen := map[bool]int{}
	for _, q := range questions() {
		hints := q.l
		if taken, ok := unitsOf(q.c, q.l); ok {
			hints = taken
		}
		needed, e := Trim(q.c, hints)
		n, wantE := checked(q.c, hints)
		var want []int
		if wantE == api.OK {
			want = trimmed(q.c, hints)
			seen[len(want) < n]++
		}
		if !slices.Equal(needed, want) || e != wantE {
			t.Fatal(q.c, hints, needed, e, want, wantE)
		}
	}
	if seen[true] < 1000 || seen[false] < 1000 {
		t.Error(seen)
	}
}

// unitsOf returns clauses of a list in an order in which they are right hints, also such as are not needed; false if there is none.
func unitsOf(c clause, l []clause) ([]clause, bool) {
	assigned := negated(c)
	var taken []clause
	if isAlways(c) {
		return nil, false
	}
taking:
	for {
		// From the end, so that what is found differs from what a search finds.
		for _, d := range slices.Backward(l) {
			if kind, x := kindOf(d, assigned); kind == 3 {
				assigned, taken = append(assigned, x), append(taken, d)
				continue taking
			}
		}
		break
	}
	for _, d := range l {
		if kind, _ := kindOf(d, assigned); kind == 2 {
			return append(taken, d, clause{1, 1}), true
		}
	}
	return nil, false
}

// P8.5

func TestWhatFollowsHolds(t *testing.T) {
	for _, q := range questions() {
		if _, e := Check(q.c, q.l); e == api.OK && !entailed(q.c, q.l) {
			t.Fatal(q)
		}
		found, ok, _ := Find(q.c, q.l)
		if hints := picked(q.l, found); ok && !entailed(q.c, hints) {
			t.Fatal(q, found)
		}
	}
}

func TestWhatIsFoundIsRight(t *testing.T) {
	for _, q := range questions() {
		found, ok, _ := Find(q.c, q.l)
		hints := picked(q.l, found)
		if n, e := Check(q.c, hints); ok && (n != len(hints) || e != api.OK) {
			t.Fatal(q, found, n, e)
		}
		if needed, e := Trim(q.c, hints); ok && (len(needed) != len(hints) || e != api.OK) {
			t.Fatal(q, found, needed, e)
		}
	}
}

// leads reports whether some order of clauses leads to a conflict.
func leads(l []clause, assigned []lits.Lit) bool {
	for i, c := range l {
		kind, x := kindOf(c, assigned)
		if kind == 2 || kind == 3 && leads(slices.Delete(slices.Clone(l), i, i+1), append(slices.Clone(assigned), x)) {
			return true
		}
	}
	return false
}

func TestWhereNothingIsFoundNothingIs(t *testing.T) {
	none := 0
	for _, q := range questions() {
		_, ok, _ := Find(q.c, q.l)
		if len(q.l) > 7 || isAlways(q.c) {
			continue
		}
		if ok != leads(q.l, negated(q.c)) {
			t.Fatal(q, ok)
		}
		if !ok {
			none++
		}
	}
	if none < 1000 {
		t.Error(none)
	}
}

func TestWhatIsTrimmedStays(t *testing.T) {
	for _, q := range questions() {
		hints, ok := unitsOf(q.c, q.l)
		if !ok {
			continue
		}
		needed, e := Trim(q.c, hints)
		less := picked(hints, needed)
		n, f := Check(q.c, less)
		again, g := Trim(q.c, less)
		if n != len(less) || len(again) != len(less) || !slices.IsSorted(needed) || e+f+g != api.OK {
			t.Fatal(q, needed, n, again, e, f, g)
		}
	}
}

func TestWithMoreClausesItIsFound(t *testing.T) {
	d := draws(85)
	for _, q := range questions() {
		if _, ok, _ := Find(q.c, q.l); ok {
			more := slices.Insert(slices.Clone(q.l), d.below(len(q.l)+1), d.list(6, 3)...)
			if _, ok, e := Find(q.c, more); !ok || e != api.OK {
				t.Fatal(q, more)
			}
		}
	}
}

// Rules

// sealed returns a list of clauses whose spare memory, and that of the clauses, has a mark, and a function that reports whether all is as it was.
func sealed(l []clause) ([]clause, func() bool) {
	const mark = 77
	all := make([]clause, 0, len(l)+2)
	for _, c := range l {
		all = append(all, append(append(make(clause, 0, len(c)+3), c...), mark, mark, mark)[:len(c)])
	}
	was := slices.Clone(all)
	all = append(all, clause{mark}, clause{mark})[:len(l)]
	spare := func(c clause) clause { return c[len(c):cap(c)] }
	return all, func() bool {
		for i, c := range all[:cap(all)] {
			if i >= len(l) {
				if !slices.Equal(c, clause{mark}) {
					return false
				}
				continue
			}
			if !slices.Equal(c, l[i]) || !slices.Equal(spare(c)[:3], clause{mark, mark, mark}) || len(c) > 0 && &c[0] != &was[i][0] {
				return false
			}
		}
		return true
	}
}

func TestArgumentsStay(t *testing.T) {
	for n, q := range questions() {
		if n%7 != 0 {
			continue
		}
		one, stays := sealed([]clause{q.c, negated(q.c)})
		l, stay := sealed(q.l)
		Right(one[1])
		Assume(one[0])
		for _, c := range l {
			Look(c, one[1])
		}
		a, _, _, _ := Follow(one[1], l)
		Check(one[0], l)
		found, _, _ := Find(one[0], l)
		needed, _ := Trim(one[0], l)
		if !stays() || !stay() {
			t.Fatal(q)
		}
		// What is done with results is seen nowhere else.
		a = append(a, 5)
		for i := range a {
			a[i] = 9
		}
		for i := range found {
			found[i] = 9
		}
		for i := range needed {
			needed[i] = 9
		}
		if !stays() || !stay() {
			t.Fatal(q)
		}
	}
	c := clause{-1, -2, -3}
	a, _, _ := Assume(c)
	a[0] = 7
	b, _, _ := Assume(c)
	if !slices.Equal(b, clause{1, 2, 3}) || !slices.Equal(c, clause{-1, -2, -3}) {
		t.Error(b, c)
	}
}
