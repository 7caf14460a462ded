package trail

import (
	"iter"
	"math"
	"slices"
	"testing"

	"salvor/api"
	"salvor/lits"
)

// step is a literal that was assigned, with its level and its reason.
type step struct {
	l             lits.Lit
	level, reason int
}

// model is what a trail has to be like: what was assigned, and where each level begins, from the level 0 on.
type model struct {
	vars   int
	steps  []step
	starts []int
}

func newModel(vars int) *model { return &model{vars: vars, starts: []int{0}} }

func (m *model) now() int { return len(m.starts) - 1 }

// place returns the place of a variable; -1 if it has no value.
func (m *model) place(v int) int {
	return slices.IndexFunc(m.steps, func(s step) bool { return lits.Var(s.l) == v })
}

func (m *model) value(l lits.Lit) int {
	for _, s := range m.steps {
		switch s.l {
		case l:
			return 1
		case -l:
			return -1
		}
	}
	return 0
}

func (m *model) assign(l lits.Lit, reason int) api.Errno {
	switch {
	case !lits.Right(l) || lits.Var(l) > m.vars:
		return ErrVar
	case reason < 0 || reason > 1<<30:
		return api.ErrArg
	case m.place(lits.Var(l)) >= 0:
		return ErrSet
	}
	m.steps = append(m.steps, step{l, m.now(), reason})
	return api.OK
}

func (m *model) push() { m.starts = append(m.starts, len(m.steps)) }

func (m *model) back(level int) api.Errno {
	if level < 0 || level > m.now() {
		return ErrLevel
	}
	m.steps = slices.DeleteFunc(m.steps, func(s step) bool { return s.level > level })
	m.starts = m.starts[:level+1]
	return api.OK
}

// pair is what Lits and Down yield at once.
type pair struct {
	place int
	l     lits.Lit
}

// pairs returns the literals of a model from a place on.
func (m *model) pairs(from int) []pair {
	var l []pair
	for i, s := range m.steps {
		if i >= from {
			l = append(l, pair{i, s.l})
		}
	}
	return l
}

func reversed(l []pair) []pair {
	l = slices.Clone(l)
	slices.Reverse(l)
	return l
}

// all returns what Lits or Down yields.
func all(seq iter.Seq2[int, lits.Lit]) []pair {
	var l []pair
	for i, x := range seq {
		l = append(l, pair{i, x})
	}
	return l
}

// newTrail returns a trail of some variables, and a model of it.
func newTrail(t *testing.T, vars int) (*Trail, *model) {
	t.Helper()
	r, e := New(vars)
	if r == nil || e != api.OK {
		t.Fatal(vars, r, e)
	}
	return r, newModel(vars)
}

// assign assigns a literal in a trail and its model.
func assign(t *testing.T, r *Trail, m *model, l lits.Lit, reason int) {
	t.Helper()
	want := m.assign(l, reason)
	if e := r.Assign(l, reason); e != want {
		t.Fatal(l, reason, e, want)
	}
}

// push begins a level in a trail and its model.
func push(t *testing.T, r *Trail, m *model) {
	t.Helper()
	m.push()
	if e := r.Push(); e != api.OK {
		t.Fatal(e)
	}
}

// back brings a trail and its model back to a level.
func back(t *testing.T, r *Trail, m *model, level int) {
	t.Helper()
	want := m.back(level)
	if e := r.Back(level); e != want {
		t.Fatal(level, e, want)
	}
}

// grown returns a trail of 9 variables with 4 levels, on one of which nothing is assigned, and a model of it.
func grown(t *testing.T) (*Trail, *model) {
	t.Helper()
	r, m := newTrail(t, 9)
	for i, level := range [][]lits.Lit{{5, -2}, {9}, {}, {-1, 7, -4}} {
		if i > 0 {
			push(t, r, m)
		}
		for _, l := range level {
			assign(t, r, m, l, 10*i+int(max(l, -l)))
		}
	}
	return r, m
}

// agreeInSizes checks how much a trail has against a model.
func agreeInSizes(t *testing.T, r *Trail, m *model) {
	t.Helper()
	if r.Vars() != m.vars || r.Now() != m.now() || r.Len() != len(m.steps) {
		t.Fatal(r.Vars(), m.vars, r.Now(), m.now(), r.Len(), len(m.steps))
	}
}

// agreeOfVariable checks what a trail says of a variable, whether it has that one or not.
func agreeOfVariable(t *testing.T, r *Trail, m *model, v int) {
	t.Helper()
	var want step
	place := m.place(v)
	there := place >= 0
	if there {
		want = m.steps[place]
	}
	level, a := r.Level(v)
	reason, b := r.Reason(v)
	at, c := r.Place(v)
	if a != there || b != there || c != there || level != want.level || reason != want.reason || at != max(place, 0) {
		t.Fatal(v, level, a, reason, b, at, c, want, place)
	}
	for _, l := range []lits.Lit{lits.Lit(v), lits.Lit(-v)} {
		if got, want := r.Value(l), m.value(l); got != want {
			t.Fatal(l, got, want)
		}
	}
}

// agreeOfPlaces checks what a trail says of its places and levels, and behind them.
func agreeOfPlaces(t *testing.T, r *Trail, m *model) {
	t.Helper()
	for i := -1; i <= len(m.steps); i++ {
		var want lits.Lit
		wanted := api.ErrArg
		if 0 <= i && i < len(m.steps) {
			want, wanted = m.steps[i].l, api.OK
		}
		if l, e := r.At(i); l != want || e != wanted {
			t.Fatal(i, l, e)
		}
	}
	for level := -1; level <= m.now()+1; level++ {
		var want int
		wanted := ErrLevel
		if 0 <= level && level <= m.now() {
			want, wanted = m.starts[level], api.OK
		}
		if place, e := r.Start(level); place != want || e != wanted {
			t.Fatal(level, place, e)
		}
	}
}

// agree checks all that a trail says against a model.
func agree(t *testing.T, r *Trail, m *model) {
	t.Helper()
	agreeInSizes(t, r, m)
	for v := range m.vars + 2 {
		agreeOfVariable(t, r, m, v)
	}
	agreeOfPlaces(t, r, m)
	for from := -1; from <= len(m.steps)+1; from++ {
		if got := all(r.Lits(from)); !slices.Equal(got, m.pairs(from)) {
			t.Fatal(from, got, m.steps)
		}
	}
	if got := all(r.Down()); !slices.Equal(got, reversed(m.pairs(0))) {
		t.Fatal(got, m.steps)
	}
}

// noCounts are numbers of variables that no trail has.
func noCounts() []int {
	return []int{-1, -2, -lits.MaxVar, lits.MaxVar + 1, 1<<32 + 1, math.MaxInt, math.MinInt}
}

// noLiterals are numbers that are no literals.
func noLiterals() []lits.Lit {
	return []lits.Lit{0, lits.MaxVar + 1, -lits.MaxVar - 1, 1<<32 + 1, math.MaxInt, math.MinInt, math.MinInt + 1}
}

// noReasons are numbers that are no reasons.
func noReasons() []int {
	return []int{-1, -2, 1<<30 + 1, 1<<32 + 1, math.MaxInt, math.MinInt}
}

// noTrails are pointers to what New did not return.
func noTrails() []*Trail { return []*Trail{nil, {}, new(Trail)} }

// draws are numbers that follow no plain rule, but are the same in each run of the tests.
type draws uint64

func (d *draws) below(bound int) int {
	*d = *d*6364136223846793005 + 1442695040888963407
	return int(*d>>33) % bound
}

func TestConstants(t *testing.T) {
	if ErrVar != 40 || ErrSet != 41 || ErrLevel != 42 {
		t.Error(ErrVar, ErrSet, ErrLevel)
	}
}

func TestExamples(t *testing.T) {
	r, e := New(4)
	if e != api.OK {
		t.Fatal(e)
	}
	for i, call := range []func() api.Errno{
		func() api.Errno { return r.Assign(2, 0) },
		r.Push,
		func() api.Errno { return r.Assign(-3, 5) },
		func() api.Errno { return r.Assign(1, 6) },
		r.Push,
		func() api.Errno { return r.Assign(-4, 0) },
	} {
		if e := call(); e != api.OK {
			t.Error(i, e)
		}
	}
	level, a := r.Level(1)
	place, b := r.Place(1)
	reason, c := r.Reason(1)
	start, e := r.Start(2)
	if r.Now() != 2 || r.Len() != 4 || r.Value(3) != -1 || start != 3 || e != api.OK {
		t.Error(r.Now(), r.Len(), r.Value(3), start, e)
	}
	if level != 1 || place != 2 || reason != 6 || !a || !b || !c {
		t.Error(level, place, reason, a, b, c)
	}
	if e := r.Back(1); e != api.OK || r.Len() != 3 || r.Value(4) != 0 {
		t.Error(e, r.Len(), r.Value(4))
	}
	if e := r.Back(0); e != api.OK || r.Len() != 1 {
		t.Error(e, r.Len())
	}
	if e, f := r.Assign(-2, 0), r.Assign(5, 0); e != ErrSet || f != ErrVar {
		t.Error(e, f)
	}
}

// P4.1

func TestNew(t *testing.T) {
	for _, vars := range []int{0, 1, 2, 7, lits.MaxVar - 1, lits.MaxVar} {
		r, _ := newTrail(t, vars)
		if r.Vars() != vars || r.Now() != 0 || r.Len() != 0 || len(all(r.Lits(0))) != 0 {
			t.Error(vars, r.Vars(), r.Now(), r.Len())
		}
		for v := 1; v <= vars; v++ {
			_, set := r.Place(v)
			if l := lits.Lit(v); set || r.Value(l) != 0 || r.Value(-l) != 0 {
				t.Fatal(vars, v, set, r.Value(l), r.Value(-l))
			}
		}
	}
	for _, vars := range noCounts() {
		if r, e := New(vars); r != nil || e != api.ErrArg {
			t.Error(vars, r, e)
		}
	}
}

func TestATrailOfNoVariables(t *testing.T) {
	r, m := newTrail(t, 0)
	agree(t, r, m)
	for _, l := range append(noLiterals(), 1, -1, 2) {
		assign(t, r, m, l, 0)
	}
	push(t, r, m)
	agree(t, r, m)
	push(t, r, m)
	agree(t, r, m)
	back(t, r, m, 1)
	agree(t, r, m)
	back(t, r, m, 2)
	back(t, r, m, 0)
	agree(t, r, m)
}

func TestVarsStays(t *testing.T) {
	r, m := grown(t)
	agree(t, r, m)
	back(t, r, m, 0)
	if r.Vars() != 9 {
		t.Error(r.Vars())
	}
}

func TestATrailOfAllVariables(t *testing.T) {
	r, _ := newTrail(t, lits.MaxVar)
	// What each variable gets, from the last one on: two of three are on a level of their own.
	literal := func(v int) lits.Lit {
		if v%2 == 0 {
			return lits.Lit(-v)
		}
		return lits.Lit(v)
	}
	level := 0
	levels := make([]int, lits.MaxVar+1)
	for v := lits.MaxVar; v >= 1; v-- {
		if v%3 != 0 {
			level++
			if e := r.Push(); e != api.OK {
				t.Fatal(v, e)
			}
		}
		levels[v] = level
		if e := r.Assign(literal(v), v); e != api.OK {
			t.Fatal(v, e)
		}
	}
	if r.Len() != lits.MaxVar || r.Now() != level || r.Vars() != lits.MaxVar {
		t.Fatal(r.Len(), r.Now(), level, r.Vars())
	}
	for v := 1; v <= lits.MaxVar; v++ {
		at, a := r.Level(v)
		reason, b := r.Reason(v)
		place, c := r.Place(v)
		l, e := r.At(lits.MaxVar - v)
		if at != levels[v] || reason != v || place != lits.MaxVar-v || !a || !b || !c || l != literal(v) || e != api.OK {
			t.Fatal(v, at, reason, place, a, b, c, l, e)
		}
		if r.Value(l) != 1 || r.Value(-l) != -1 || r.Assign(-l, 0) != ErrSet {
			t.Fatal(v, r.Value(l), r.Value(-l))
		}
	}
	next := 0
	for place, l := range r.Lits(0) {
		if place != next || l != literal(lits.MaxVar-place) {
			t.Fatal(next, place, l)
		}
		next++
	}
	for place, l := range r.Down() {
		next--
		if place != next || l != literal(lits.MaxVar-place) {
			t.Fatal(next, place, l)
		}
	}
	if next != 0 {
		t.Error(next)
	}
	if e := r.Back(0); e != api.OK || r.Len() != 0 || r.Now() != 0 {
		t.Error(e, r.Len(), r.Now())
	}
	for _, l := range []lits.Lit{1, -lits.MaxVar} {
		if e := r.Assign(l, 0); e != api.OK {
			t.Error(l, e)
		}
	}
	if e := r.Assign(lits.MaxVar+1, 0); e != ErrVar {
		t.Error(e)
	}
}

// P4.2

func TestAssignOfNoVariable(t *testing.T) {
	r, m := grown(t)
	for _, l := range append(noLiterals(), 10, -10, 11, lits.MaxVar, -lits.MaxVar) {
		// It comes before reasons that are wrong.
		for _, reason := range append(noReasons(), 0, 1, 1<<30) {
			if e := r.Assign(l, reason); e != ErrVar {
				t.Error(l, reason, e)
			}
		}
		agree(t, r, m)
	}
}

func TestReasonsOutOfBounds(t *testing.T) {
	r, m := grown(t)
	for _, reason := range noReasons() {
		// They come before values that are there already: of 5 and -2.
		for _, l := range []lits.Lit{3, -3, 5, -5, 2, -2} {
			if e := r.Assign(l, reason); e != api.ErrArg {
				t.Error(l, reason, e)
			}
		}
		agree(t, r, m)
	}
}

func TestReasonsWithinBounds(t *testing.T) {
	for _, reason := range []int{0, 1, 2, 1 << 20, 1<<30 - 1, 1 << 30} {
		for _, l := range []lits.Lit{3, -3} {
			r, m := newTrail(t, 3)
			assign(t, r, m, l, reason)
			if got, set := r.Reason(3); got != reason || !set {
				t.Error(l, reason, got, set)
			}
			agree(t, r, m)
		}
	}
}

func TestAssignOfWhatHasAValue(t *testing.T) {
	r, m := grown(t)
	for _, s := range slices.Clone(m.steps) {
		for _, l := range []lits.Lit{s.l, -s.l} {
			for _, reason := range []int{0, s.reason, 1 << 30} {
				if e := r.Assign(l, reason); e != ErrSet {
					t.Error(l, reason, e)
				}
			}
		}
		agree(t, r, m)
	}
}

func TestAsManyLevelsAsThereMayBe(t *testing.T) {
	// With the level 0 there are lits.MaxVar levels then.
	const last = lits.MaxVar - 1
	for _, vars := range []int{0, 2} {
		r, _ := newTrail(t, vars)
		r.Assign(1, 4)
		for level := 1; level <= last; level++ {
			if e := r.Push(); e != api.OK || r.Now() != level {
				t.Fatal(vars, level, e, r.Now())
			}
		}
		if e := r.Push(); e != api.ErrMany || r.Now() != last || r.Len() != vars/2 {
			t.Fatal(vars, e, r.Now(), r.Len())
		}
		r.Assign(-2, 3)
		for range 3 {
			if e := r.Push(); e != api.ErrMany || r.Now() != last || r.Len() != vars {
				t.Fatal(vars, e, r.Now(), r.Len())
			}
		}
		if level, set := r.Level(2); vars == 2 && (level != last || !set) {
			t.Error(level, set)
		}
		start, e := r.Start(last)
		none, f := r.Start(last + 1)
		if start != vars/2 || e != api.OK || none != 0 || f != ErrLevel || r.Back(last+1) != ErrLevel {
			t.Error(vars, start, e, none, f)
		}
		// Each level that is gone makes room for another one.
		if e := r.Back(last - 1); e != api.OK || r.Now() != last-1 || r.Len() != vars/2 {
			t.Error(vars, e, r.Now(), r.Len())
		}
		if e, f := r.Push(), r.Push(); e != api.OK || f != api.ErrMany || r.Now() != last {
			t.Error(vars, e, f, r.Now())
		}
		if e := r.Back(0); e != api.OK || r.Now() != 0 || r.Len() != vars/2 {
			t.Error(vars, e, r.Now(), r.Len())
		}
		if e := r.Push(); e != api.OK || r.Now() != 1 {
			t.Error(vars, e, r.Now())
		}
	}
}

func TestLevelsOnWhichNothingIsAssigned(t *testing.T) {
	r, m := newTrail(t, 3)
	push(t, r, m)
	push(t, r, m)
	agree(t, r, m)
	assign(t, r, m, -3, 1)
	push(t, r, m)
	agree(t, r, m)
	push(t, r, m)
	assign(t, r, m, 1, 2)
	agree(t, r, m)
	back(t, r, m, 3)
	agree(t, r, m)
	assign(t, r, m, 2, 3)
	agree(t, r, m)
	back(t, r, m, 2)
	agree(t, r, m)
	back(t, r, m, 1)
	agree(t, r, m)
}

func TestBackToEachLevel(t *testing.T) {
	for level := range 4 {
		r, m := grown(t)
		back(t, r, m, level)
		agree(t, r, m)
		// Once more it changes nothing.
		back(t, r, m, level)
		agree(t, r, m)
		push(t, r, m)
		assign(t, r, m, 3, 77)
		agree(t, r, m)
	}
}

func TestBackToTheLevelThatIsNow(t *testing.T) {
	r, m := grown(t)
	if e := r.Back(3); e != api.OK || r.Len() != 6 || r.Now() != 3 {
		t.Error(e, r.Len(), r.Now())
	}
	agree(t, r, m)
	r, m = newTrail(t, 2)
	assign(t, r, m, 2, 0)
	back(t, r, m, 0)
	if r.Value(2) != 1 {
		t.Error("what is assigned at the level 0 is gone")
	}
	agree(t, r, m)
}

func TestBackToNoLevel(t *testing.T) {
	r, m := grown(t)
	for _, level := range []int{-1, -2, 4, 5, lits.MaxVar, 1<<32 + 1, math.MaxInt, math.MinInt} {
		start, e := r.Start(level)
		if f := r.Back(level); f != ErrLevel || start != 0 || e != ErrLevel {
			t.Error(level, f, start, e)
		}
		agree(t, r, m)
	}
	// A level that is gone is none any more.
	back(t, r, m, 1)
	for level := 2; level <= 4; level++ {
		if e := r.Back(level); e != ErrLevel {
			t.Error(level, e)
		}
	}
	agree(t, r, m)
}

func TestWhatIsGoneMayBeAssignedAgain(t *testing.T) {
	for level := range 4 {
		r, m := grown(t)
		gone := slices.Clone(m.steps)
		back(t, r, m, level)
		// With the other sign, another reason, and in another order.
		slices.Reverse(gone)
		for _, s := range gone {
			assign(t, r, m, -s.l, s.reason+1)
			agree(t, r, m)
		}
		if r.Len() != 6 {
			t.Error(level, r.Len())
		}
	}
}

// P4.3

func TestValues(t *testing.T) {
	r, _ := grown(t)
	for l, want := range map[lits.Lit]int{
		5: 1, -5: -1, -2: 1, 2: -1, 9: 1, -9: -1, -1: 1, 1: -1, 7: 1, -7: -1, -4: 1, 4: -1,
		3: 0, -3: 0, 6: 0, -6: 0, 8: 0, -8: 0, // no value
		10: 0, -10: 0, lits.MaxVar: 0, -lits.MaxVar: 0, // no variable of the trail
	} {
		if got := r.Value(l); got != want {
			t.Error(l, got)
		}
	}
	for _, l := range noLiterals() {
		if got := r.Value(l); got != 0 {
			t.Error(l, got)
		}
	}
}

func TestWhatIsKnownOfVariables(t *testing.T) {
	r, _ := grown(t)
	for _, c := range []struct{ v, level, reason, place int }{
		{5, 0, 5, 0}, {2, 0, 2, 1}, {9, 1, 19, 2}, {1, 3, 31, 3}, {7, 3, 37, 4}, {4, 3, 34, 5},
	} {
		level, a := r.Level(c.v)
		reason, b := r.Reason(c.v)
		place, d := r.Place(c.v)
		if level != c.level || reason != c.reason || place != c.place || !a || !b || !d {
			t.Error(c, level, a, reason, b, place, d)
		}
	}
}

func TestWhatIsKnownOfNone(t *testing.T) {
	r, m := grown(t)
	check := func(v int) {
		t.Helper()
		level, a := r.Level(v)
		reason, b := r.Reason(v)
		place, c := r.Place(v)
		if level != 0 || reason != 0 || place != 0 || a || b || c {
			t.Error(v, level, a, reason, b, place, c)
		}
	}
	// Those without values, those that there are not, and what would be negations.
	for _, v := range append(noCounts(), 0, 3, 6, 8, 10, 11, -5, -2, -9, lits.MaxVar) {
		check(v)
	}
	back(t, r, m, 1)
	for _, v := range []int{1, 7, 4} {
		check(v)
	}
}

// P4.4

func TestPlaces(t *testing.T) {
	r, _ := grown(t)
	for place, want := range []lits.Lit{5, -2, 9, -1, 7, -4} {
		if l, e := r.At(place); l != want || e != api.OK {
			t.Error(place, l, e)
		}
	}
	for _, place := range []int{-1, -2, 6, 7, 9, 1<<32 + 1, math.MaxInt, math.MinInt} {
		if l, e := r.At(place); l != 0 || e != api.ErrArg {
			t.Error(place, l, e)
		}
	}
	r.Back(1)
	for place := 3; place <= 6; place++ {
		if l, e := r.At(place); l != 0 || e != api.ErrArg {
			t.Error(place, l, e)
		}
	}
}

func TestStarts(t *testing.T) {
	r, _ := grown(t)
	for level, want := range []int{0, 2, 3, 3} {
		if start, e := r.Start(level); start != want || e != api.OK {
			t.Error(level, start, e)
		}
	}
	// A level that begins anew begins elsewhere.
	r.Back(1)
	r.Assign(8, 0)
	r.Push()
	if start, e := r.Start(2); start != 4 || e != api.OK {
		t.Error(start, e)
	}
}

func TestCounts(t *testing.T) {
	r, _ := newTrail(t, 3)
	for i, c := range []struct {
		change   func() api.Errno
		now, len int
	}{
		{func() api.Errno { return api.OK }, 0, 0},
		{func() api.Errno { return r.Assign(-3, 0) }, 0, 1},
		{r.Push, 1, 1},
		{r.Push, 2, 1},
		{func() api.Errno { return r.Assign(1, 0) }, 2, 2},
		{func() api.Errno { return r.Assign(2, 0) }, 2, 3},
		{func() api.Errno { return r.Back(1) }, 1, 1},
		{func() api.Errno { return r.Assign(-2, 0) }, 1, 2},
		{func() api.Errno { return r.Back(0) }, 0, 1},
	} {
		if e := c.change(); e != api.OK || r.Now() != c.now || r.Len() != c.len {
			t.Error(i, e, r.Now(), r.Len())
		}
	}
}

// P4.5

func TestLitsFrom(t *testing.T) {
	r, _ := grown(t)
	whole := []pair{{0, 5}, {1, -2}, {2, 9}, {3, -1}, {4, 7}, {5, -4}}
	for _, c := range []struct {
		from int
		want []pair
	}{
		{0, whole}, {-1, whole}, {-2, whole}, {math.MinInt, whole},
		{1, whole[1:]}, {3, whole[3:]}, {5, whole[5:]},
		{6, nil}, {7, nil}, {lits.MaxVar, nil}, {math.MaxInt, nil},
	} {
		if got := all(r.Lits(c.from)); !slices.Equal(got, c.want) {
			t.Error(c.from, got)
		}
	}
	if got := all(r.Down()); !slices.Equal(got, reversed(whole)) {
		t.Error(got)
	}
}

func TestWalksThatAreStopped(t *testing.T) {
	r, m := grown(t)
	for _, c := range []struct {
		walk iter.Seq2[int, lits.Lit]
		want []pair
	}{{r.Lits(0), m.pairs(0)}, {r.Lits(2), m.pairs(2)}, {r.Down(), reversed(m.pairs(0))}} {
		for stop := range c.want {
			// The same function begins anew each time.
			var got []pair
			for i, l := range c.walk {
				got = append(got, pair{i, l})
				if len(got) == stop+1 {
					break
				}
			}
			if !slices.Equal(got, c.want[:stop+1]) {
				t.Error(stop, got)
			}
		}
	}
	agree(t, r, m)
}

func TestWalksBeginWhenTheyAreGoneThrough(t *testing.T) {
	r, m := grown(t)
	up, later, down := r.Lits(0), r.Lits(6), r.Down()
	assign(t, r, m, 3, 0)
	check := func() {
		t.Helper()
		if a, b, c := all(up), all(later), all(down); !slices.Equal(a, m.pairs(0)) || !slices.Equal(b, m.pairs(6)) || !slices.Equal(c, reversed(m.pairs(0))) {
			t.Error(a, b, c)
		}
	}
	check()
	back(t, r, m, 1)
	check()
	back(t, r, m, 0)
	assign(t, r, m, 6, 0)
	check()
}

func TestWalksWithinWalks(t *testing.T) {
	r, _ := newTrail(t, 3)
	for _, l := range []lits.Lit{2, -1, 3} {
		r.Assign(l, 0)
	}
	var got [][2]int
	for i := range r.Lits(0) {
		for j := range r.Down() {
			if j < i {
				break
			}
			got = append(got, [2]int{i, j})
		}
	}
	if want := [][2]int{{0, 2}, {0, 1}, {0, 0}, {1, 2}, {1, 1}, {2, 2}}; !slices.Equal(got, want) {
		t.Error(got)
	}
}

// meanwhile is what is done when a walk is at a place, and what comes then.
type meanwhile struct {
	at, level int // the level to which the trail goes back
	more      []lits.Lit
	want      []pair
}

// checkMeanwhile goes through a trail, changes it at one of its places, and looks what comes.
func checkMeanwhile(t *testing.T, walkOf func(*Trail) iter.Seq2[int, lits.Lit], c meanwhile) {
	t.Helper()
	r, m := grown(t)
	var got []pair
	for place, l := range walkOf(r) {
		got = append(got, pair{place, l})
		if place != c.at {
			continue
		}
		back(t, r, m, c.level)
		for _, x := range c.more {
			assign(t, r, m, x, 0)
		}
	}
	if !slices.Equal(got, c.want) {
		t.Error(c, got)
	}
	agree(t, r, m)
}

func TestLitsMeanwhile(t *testing.T) {
	for _, c := range []struct {
		from int
		meanwhile
	}{
		{0, meanwhile{5, 3, []lits.Lit{3}, []pair{{0, 5}, {1, -2}, {2, 9}, {3, -1}, {4, 7}, {5, -4}, {6, 3}}}},
		{4, meanwhile{4, 3, []lits.Lit{-8, 6, 3}, []pair{{4, 7}, {5, -4}, {6, -8}, {7, 6}, {8, 3}}}},
		{0, meanwhile{0, 3, []lits.Lit{-8}, []pair{{0, 5}, {1, -2}, {2, 9}, {3, -1}, {4, 7}, {5, -4}, {6, -8}}}},
		// What is gone does not come, and what comes in its place does.
		{0, meanwhile{0, 1, nil, []pair{{0, 5}, {1, -2}, {2, 9}}}},
		{0, meanwhile{2, 1, nil, []pair{{0, 5}, {1, -2}, {2, 9}}}},
		{0, meanwhile{2, 0, nil, []pair{{0, 5}, {1, -2}, {2, 9}}}},
		{3, meanwhile{4, 0, nil, []pair{{3, -1}, {4, 7}}}},
		{0, meanwhile{1, 0, []lits.Lit{-9, 3}, []pair{{0, 5}, {1, -2}, {2, -9}, {3, 3}}}},
		{0, meanwhile{3, 1, []lits.Lit{4, 1, -7, 8}, []pair{{0, 5}, {1, -2}, {2, 9}, {3, -1}, {4, 1}, {5, -7}, {6, 8}}}},
		{0, meanwhile{5, 0, []lits.Lit{1, 3, 4}, []pair{{0, 5}, {1, -2}, {2, 9}, {3, -1}, {4, 7}, {5, -4}}}},
	} {
		checkMeanwhile(t, func(r *Trail) iter.Seq2[int, lits.Lit] { return r.Lits(c.from) }, c.meanwhile)
	}
}

func TestDownMeanwhile(t *testing.T) {
	for _, c := range []meanwhile{
		// What is assigned meanwhile stands behind where it began.
		{5, 3, []lits.Lit{3, 6}, []pair{{5, -4}, {4, 7}, {3, -1}, {2, 9}, {1, -2}, {0, 5}}},
		{0, 3, []lits.Lit{3, 6}, []pair{{5, -4}, {4, 7}, {3, -1}, {2, 9}, {1, -2}, {0, 5}}},
		{5, 1, nil, []pair{{5, -4}, {2, 9}, {1, -2}, {0, 5}}},
		{5, 0, nil, []pair{{5, -4}, {1, -2}, {0, 5}}},
		{4, 2, nil, []pair{{5, -4}, {4, 7}, {2, 9}, {1, -2}, {0, 5}}},
		{3, 0, nil, []pair{{5, -4}, {4, 7}, {3, -1}, {1, -2}, {0, 5}}},
		{2, 0, nil, []pair{{5, -4}, {4, 7}, {3, -1}, {2, 9}, {1, -2}, {0, 5}}},
		{0, 0, nil, []pair{{5, -4}, {4, 7}, {3, -1}, {2, 9}, {1, -2}, {0, 5}}},
		// A place that is there again has another literal.
		{5, 0, []lits.Lit{-9, 3}, []pair{{5, -4}, {3, 3}, {2, -9}, {1, -2}, {0, 5}}},
		{3, 1, []lits.Lit{4, 1, 7, 8}, []pair{{5, -4}, {4, 7}, {3, -1}, {2, 9}, {1, -2}, {0, 5}}},
	} {
		checkMeanwhile(t, (*Trail).Down, c)
	}
}

func TestDownWhenAllIsGone(t *testing.T) {
	r, m := newTrail(t, 4)
	push(t, r, m)
	for v := 1; v <= 4; v++ {
		assign(t, r, m, lits.Lit(v), 0)
	}
	var got []pair
	for i, l := range r.Down() {
		got = append(got, pair{i, l})
		back(t, r, m, 0)
	}
	if !slices.Equal(got, []pair{{3, 4}}) {
		t.Error(got)
	}
	agree(t, r, m)
}

// change makes one of some changes to a trail and its model, and checks what it returns.
func change(t *testing.T, r *Trail, m *model, d *draws) {
	t.Helper()
	switch kind := d.below(10); {
	case kind < 6:
		assign(t, r, m, lits.Lit(d.below(2*m.vars+3)-m.vars-1), d.below(1<<30))
	case kind < 8:
		push(t, r, m)
	case kind == 8:
		back(t, r, m, max(m.now()-1-d.below(2), 0))
	default:
		back(t, r, m, d.below(m.now()+3)-1)
	}
}

// TestWalksWhileMuchChanges holds each place that comes against the next one that the model has.
func TestWalksWhileMuchChanges(t *testing.T) {
	for seed := range draws(400) {
		d := seed
		r, m := newTrail(t, 30)
		for range 60 {
			change(t, r, m, &d)
		}
		next := d.below(5)
		for place, l := range r.Lits(next) {
			if place != next || place >= len(m.steps) || m.steps[place].l != l {
				t.Fatal(seed, next, place, l, m.steps)
			}
			next++
			for range d.below(4) {
				change(t, r, m, &d)
			}
		}
		if next < len(m.steps) {
			t.Fatal(seed, next, len(m.steps))
		}
		agree(t, r, m)
		next = len(m.steps) - 1
		for place, l := range r.Down() {
			next = min(next, len(m.steps)-1)
			if place != next || m.steps[place].l != l {
				t.Fatal(seed, next, place, l, m.steps)
			}
			next--
			for range d.below(4) {
				change(t, r, m, &d)
			}
		}
		if min(next, len(m.steps)-1) >= 0 {
			t.Fatal(seed, next, "did not come")
		}
		agree(t, r, m)
	}
}

// P4.6

// TestShortRuns tries all runs of a few changes to a trail of two variables.
func TestShortRuns(t *testing.T) {
	const kinds, length = 8, 6
	runs := 1
	for range length {
		runs *= kinds
	}
	for run := range runs {
		r, m := newTrail(t, 2)
		for rest := run; rest > 0; rest /= kinds {
			switch kind := rest % kinds; kind {
			case 0, 1, 2, 3:
				assign(t, r, m, []lits.Lit{1, -1, 2, -2}[kind], rest)
			case 4:
				push(t, r, m)
			default:
				back(t, r, m, m.now()-kind+5)
			}
		}
		agree(t, r, m)
	}
}

func TestALongRun(t *testing.T) {
	for seed := range draws(10) {
		d := seed
		r, m := newTrail(t, 5+10*int(seed))
		for range 2000 {
			change(t, r, m, &d)
			agreeInSizes(t, r, m)
			agreeOfVariable(t, r, m, d.below(m.vars+2))
			if d.below(20) == 0 {
				agree(t, r, m)
			}
		}
		agree(t, r, m)
	}
}

// TestBackIsAsIfNothingElseWasAssigned holds a trail against one that never had what is gone.
func TestBackIsAsIfNothingElseWasAssigned(t *testing.T) {
	for seed := range draws(200) {
		d := seed
		r, m := newTrail(t, 12)
		for range 80 {
			change(t, r, m, &d)
		}
		level := d.below(m.now() + 1)
		fresh, n := newTrail(t, 12)
		for at := 0; at <= level; at++ {
			if at > 0 {
				push(t, fresh, n)
			}
			for _, s := range m.steps {
				if s.level == at {
					assign(t, fresh, n, s.l, s.reason)
				}
			}
		}
		back(t, r, m, level)
		agree(t, r, n)
		agree(t, fresh, n)
		// It stays so, whatever comes.
		for range 10 {
			e := d
			change(t, r, m, &d)
			change(t, fresh, n, &e)
			agree(t, r, n)
		}
	}
}

func TestNoVariableHasTwoValuesAndLevelsGrow(t *testing.T) {
	for seed := range draws(100) {
		d := seed
		r, m := newTrail(t, 20)
		for range 100 {
			change(t, r, m, &d)
			last := 0
			met := map[int]bool{}
			for place, l := range r.Lits(0) {
				v := lits.Var(l)
				level, set := r.Level(v)
				start, e := r.Start(level)
				if met[v] || !set || level < last || level > r.Now() || start > place || e != api.OK {
					t.Fatal(seed, place, l, level, set, last, start, e)
				}
				if r.Value(l) != 1 || r.Value(-l) != -1 {
					t.Fatal(seed, l, r.Value(l), r.Value(-l))
				}
				met[v] = true
				last = level
			}
			if len(met) != r.Len() {
				t.Fatal(seed, len(met), r.Len())
			}
		}
	}
}

// What holds for all methods: what is no trail, errors, and objects that know nothing of each other.

func TestNoTrail(t *testing.T) {
	for i, r := range noTrails() {
		for _, l := range append(noLiterals(), 1, -1, 2, lits.MaxVar) {
			for _, reason := range append(noReasons(), 0, 1<<30) {
				if e := r.Assign(l, reason); e != api.ErrNil {
					t.Error(i, l, reason, e)
				}
			}
			if got := r.Value(l); got != 0 {
				t.Error(i, l, got)
			}
		}
		for _, n := range append(noCounts(), 0, 1, 2, lits.MaxVar) {
			level, a := r.Level(n)
			reason, b := r.Reason(n)
			place, c := r.Place(n)
			if level != 0 || a || reason != 0 || b || place != 0 || c {
				t.Error(i, n, level, a, reason, b, place, c)
			}
			l, e := r.At(n)
			start, f := r.Start(n)
			if l != 0 || e != api.ErrNil || start != 0 || f != api.ErrNil || r.Back(n) != api.ErrNil {
				t.Error(i, n, l, e, start, f)
			}
			if got := all(r.Lits(n)); len(got) != 0 {
				t.Error(i, n, got)
			}
		}
		if e := r.Push(); e != api.ErrNil || r.Now() != 0 || r.Len() != 0 || r.Vars() != 0 || len(all(r.Down())) != 0 {
			t.Error(i, e, r.Now(), r.Len(), r.Vars())
		}
	}
}

func TestWithAnErrorNothingChanges(t *testing.T) {
	r, m := grown(t)
	for i, call := range []func() api.Errno{
		func() api.Errno { return r.Assign(0, 0) },
		func() api.Errno { return r.Assign(10, 0) },
		func() api.Errno { return r.Assign(3, -1) },
		func() api.Errno { return r.Assign(3, 1<<30+1) },
		func() api.Errno { return r.Assign(5, 0) },
		func() api.Errno { return r.Assign(-5, 0) },
		func() api.Errno { return r.Assign(4, 7) },
		func() api.Errno { return r.Back(4) },
		func() api.Errno { return r.Back(-1) },
		func() api.Errno { _, e := r.Start(4); return e },
		func() api.Errno { _, e := r.At(6); return e },
		func() api.Errno { _, e := r.At(-1); return e },
	} {
		if e := call(); e == api.OK {
			t.Error(i, e)
		}
		agree(t, r, m)
	}
	// What failed left nothing behind: all of it can still be assigned.
	for _, l := range []lits.Lit{3, -6, 8} {
		assign(t, r, m, l, 1)
		agree(t, r, m)
	}
}

func TestReadingChangesNothing(t *testing.T) {
	r, m := grown(t)
	for range 3 {
		agree(t, r, m)
	}
}

func TestTrailsKnowNothingOfEachOther(t *testing.T) {
	a, m := newTrail(t, 9)
	b, n := grown(t)
	c, o := newTrail(t, 9)
	agree(t, a, m)
	agree(t, c, o)
	push(t, a, m)
	assign(t, a, m, -5, 3)
	assign(t, a, m, 8, 4)
	agree(t, b, n)
	back(t, b, n, 0)
	agree(t, a, m)
	agree(t, c, o)
}
