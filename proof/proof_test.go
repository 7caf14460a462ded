package proof

import (
	"math"
	"slices"
	"strings"
	"testing"

	"salvor/api"
	"salvor/clauses"
	"salvor/formula"
	"salvor/lits"
	"salvor/lratext"
	"salvor/rat"
	"salvor/rup"
)

type (
	clause = clauses.Clause
	entry  = rat.Entry
	step   = lratext.Step
)

// add returns a step that adds a clause, with some hints.
func add(id int, c clause, hints ...int) step { return step{ID: id, Lits: c, Hints: hints} }

// del returns a step that takes clauses away.
func del(id int, hints ...int) step { return step{Delete: true, ID: id, Hints: hints} }

// of returns the formula of some variables and clauses.
func of(vars int, c ...clause) formula.Formula { return formula.Formula{Vars: vars, Clauses: c} }

// example returns the chapter's formula.
func example() formula.Formula {
	return of(2, clause{1, 2}, clause{-1, 2}, clause{1, -2}, clause{-1, -2})
}

// proving returns the chapter's proof.
func proving() []step { return []step{add(5, clause{2}, 1, 2), add(6, nil, 5, 3, 4)} }

// numbered returns entries with the IDs from 1 on.
func numbered(l ...clause) []entry {
	var entries []entry
	for i, c := range l {
		entries = append(entries, entry{ID: i + 1, Lits: c})
	}
	return entries
}

// draws is a row of numbers that look as if they were drawn, the same ones each time.
type draws uint64

func (d *draws) below(bound int) int {
	*d = *d*6364136223846793005 + 1442695040888963407
	return int(uint64(*d)>>33) % bound
}

// clause draws a clause of some variables; literals stand in it twice, or with their negations, now and then.
func (d *draws) clause(vars, least, most int) clause {
	var c clause
	for range least + d.below(most-least+1) {
		c = append(c, lits.Lit(1+d.below(vars))*lits.Lit(1-2*d.below(2)))
	}
	return c
}

// formula draws a formula; an empty clause is in it seldom.
func (d *draws) formula() formula.Formula {
	f := of(1 + d.below(4))
	for range d.below(4*f.Vars + 2) {
		f.Clauses = append(f.Clauses, d.clause(f.Vars, 1+d.below(2), 3))
	}
	if d.below(20) == 0 {
		f.Clauses = slices.Insert(f.Clauses, d.below(len(f.Clauses)+1), nil)
	}
	return f
}

// steps draws steps behind a formula; of so many that cannot be done it keeps one, and it goes on behind the one that proves it, seldom.
func (d *draws) steps(f formula.Formula, wrong int) []step {
	var l []step
	m := modelOf(f)
	for range d.below(16) {
		s := d.step(m, f.Vars)
		if m.do(s).e != api.OK && d.below(wrong) > 0 {
			continue
		}
		l = append(l, s)
		if m.proved && d.below(4) > 0 {
			break
		}
	}
	return l
}

// step draws a step, which many a time can be done.
func (d *draws) step(m *model, vars int) step {
	id := m.last + 1
	if d.below(5) == 0 {
		id += d.below(4) - 1
	}
	if d.below(6) == 0 {
		return step{Delete: true, ID: m.last + d.below(2)*d.below(2), Hints: d.hints(m.entries, 3)}
	}
	if d.below(3) == 0 {
		return d.fresh(m, id, lits.Lit(vars+2))
	}
	c := d.clause(vars+1, d.below(2), 3)
	found, _, ok, _ := rat.Search(m.entries, c)
	if shorter, _, is, _ := rat.Search(m.entries, nil); is && d.below(4) == 0 {
		c, found, ok = nil, shorter, true
	}
	if !ok {
		return step{ID: id, Lits: c, Hints: d.hints(m.entries, 4)}
	}
	hints, _ := rat.Join(found.Hints, found.Groups)
	if d.below(4) == 0 {
		hints = append(hints, d.hints(m.entries, 2)...)
	}
	if d.below(10) == 0 {
		hints = slices.Insert(hints, d.below(len(hints)+1), d.hints(m.entries, 1)...)
	}
	if len(found.Groups) > 0 && d.below(3) == 0 {
		i := d.below(len(hints))
		hints = slices.Delete(hints, i, i+1)
	}
	return step{ID: id, Lits: c, Hints: hints}
}

// fresh draws a step with a pivot that the formula does not have, which is one of RAT more often than others.
func (d *draws) fresh(m *model, id int, x lits.Lit) step {
	c := append(clause{x * lits.Lit(1-2*d.below(2))}, d.clause(int(x), 0, 2)...)
	known := slices.DeleteFunc(slices.Clone(m.entries), func(e entry) bool { return !slices.Contains(e.Lits, x) && !slices.Contains(e.Lits, -x) })
	s := add(id, c)
	if found, _, ok, _ := rat.Search(known, c); ok {
		s.Hints, _ = rat.Join(found.Hints, found.Groups)
		return s
	}
	for _, e := range known {
		if slices.Contains(e.Lits, -c[0]) {
			s.Hints = append(append(s.Hints, -e.ID), d.hints(m.entries, 2)...)
		}
	}
	return s
}

// hints draws IDs, nearly all of which are those of entries.
func (d *draws) hints(l []entry, most int) []int {
	var hints []int
	for range d.below(most + 1) {
		if len(l) == 0 || d.below(20) == 0 {
			hints = append(hints, 1+d.below(20))
			continue
		}
		hints = append(hints, l[d.below(len(l))].ID*(1-2*(d.below(12)/11)))
	}
	return hints
}

// question is steps behind a formula.
type question struct {
	f formula.Formula
	l []step
}

// drawn are steps that are drawn, behind formulas that are; few of them cannot be done.
func drawn(seed draws, times int) []question { return drawnWith(seed, times, 30) }

func drawnWith(seed draws, times, wrong int) []question {
	var all []question
	for range times {
		f := seed.formula()
		all = append(all, question{f, seed.steps(f, wrong)})
	}
	return all
}

// outcome is what Do says.
type outcome struct {
	kind uint8
	id   int
	e    api.Errno
}

// What follows says the same a second time, by the words of the chapter, to hold the package against.

type model struct {
	entries                      []entry
	last                         int
	proved                       bool
	adds, deletes, rats, largest int
}

func modelOf(f formula.Formula) *model {
	m := &model{last: len(f.Clauses), largest: len(f.Clauses), entries: numbered(f.Clauses...)}
	for _, c := range f.Clauses {
		m.proved = m.proved || len(c) == 0
	}
	return m
}

func (m *model) do(s step) outcome {
	if m.proved {
		return outcome{}
	}
	if !lratext.Right(s) {
		return outcome{e: 70}
	}
	if s.Delete {
		return m.delete(s)
	}
	if s.ID <= m.last {
		return outcome{id: s.ID, e: 100}
	}
	hints, groups, _ := rat.Split(s.Hints)
	kind, id, e := rat.Check(m.entries, rat.Step{Lits: s.Lits, Hints: hints, Groups: groups})
	if e != api.OK {
		return outcome{0, id, e}
	}
	m.entries = append(slices.Clone(m.entries), entry{ID: s.ID, Lits: s.Lits})
	m.last = s.ID
	m.proved = len(s.Lits) == 0
	m.adds++
	if kind == 2 {
		m.rats++
	}
	m.largest = max(m.largest, len(m.entries))
	return outcome{kind: kind}
}

func (m *model) delete(s step) outcome {
	if s.ID < m.last {
		return outcome{id: s.ID, e: 100}
	}
	left := slices.Clone(m.entries)
	for _, id := range s.Hints {
		i := slices.IndexFunc(left, func(x entry) bool { return x.ID == id })
		if i < 0 {
			return outcome{id: id, e: 91}
		}
		left = slices.Delete(left, i, i+1)
	}
	m.entries = left
	m.last = s.ID
	m.deletes++
	return outcome{}
}

func (m *model) report() Report { return Report{m.proved, m.adds, m.deletes, m.rats, m.largest} }

// needed returns the hints that are needed of a step of RUP that can be done.
func (m *model) needed(s step) []int {
	assigned := map[lits.Lit]bool{}
	for _, x := range s.Lits {
		assigned[-x] = true
	}
	for _, x := range s.Lits {
		if assigned[x] {
			return nil
		}
	}
	wanted := map[lits.Lit]bool{}
	var ids []int
	var taken []clause
	var units []lits.Lit
	for _, id := range s.Hints {
		c := m.entries[slices.IndexFunc(m.entries, func(x entry) bool { return x.ID == id })].Lits
		unit := lits.Lit(0)
		for _, x := range c {
			if !assigned[-x] {
				unit = x
			}
		}
		ids, taken, units = append(ids, id), append(taken, c), append(units, unit)
		if unit == 0 {
			break
		}
		assigned[unit] = true
	}
	var hints []int
	for i := len(ids) - 1; i >= 0; i-- {
		if units[i] != 0 && !wanted[units[i]] {
			continue
		}
		hints = append([]int{ids[i]}, hints...)
		for _, x := range taken[i] {
			wanted[-x] = true
		}
	}
	return hints
}

// modelCheck returns the report of a proof, and how many steps were done, or which one cannot be.
func modelCheck(q question) (Report, int, api.Errno) {
	m := modelOf(q.f)
	for i, s := range q.l {
		if m.proved {
			return m.report(), i, api.OK
		}
		if o := m.do(s); o.e != api.OK {
			return Report{}, i, o.e
		}
	}
	if !m.proved {
		return Report{}, len(q.l), 101
	}
	return m.report(), len(q.l), api.OK
}

// modelTrim returns the steps that are needed.
func modelTrim(q question) ([]step, int, api.Errno) {
	_, n, e := modelCheck(q)
	if e != api.OK {
		return nil, n, e
	}
	m := modelOf(q.f)
	hints := make([][]int, n)
	for i, s := range q.l[:n] {
		before := *m
		if kind := m.do(s).kind; kind == 2 {
			return nil, i, 102
		}
		if !s.Delete {
			hints[i] = before.needed(s)
		}
	}
	is := make([]bool, n)
	for range n {
		for i, s := range q.l[:n] {
			is[i] = is[i] || !s.Delete && len(s.Lits) == 0
			for j := range n {
				is[i] = is[i] || !s.Delete && is[j] && slices.Contains(hints[j], s.ID)
			}
		}
	}
	var l []step
	for i, s := range q.l[:n] {
		if is[i] {
			l = append(l, add(s.ID, s.Lits, hints[i]...))
		}
	}
	return l, -1, api.OK
}

func sameEntry(a, b entry) bool { return a.ID == b.ID && slices.Equal(a.Lits, b.Lits) }

// shows checks what a checker says of itself.
func shows(t *testing.T, c *Checker, m *model) {
	t.Helper()
	for range 2 {
		if c.Proved() != m.proved || c.Last() != m.last || c.Report() != m.report() || !slices.EqualFunc(c.Entries(), m.entries, sameEntry) {
			t.Fatal(c.Proved(), c.Last(), c.Report(), c.Entries(), "but not", m)
		}
	}
}

// opened returns the checker of a formula that is right.
func opened(t *testing.T, f formula.Formula) *Checker {
	t.Helper()
	c, e := New(f)
	if c == nil || e != api.OK {
		t.Fatal(len(f.Clauses), e)
	}
	return c
}

// doing checks what Do says of a step, and what the checker says of itself behind it.
func doing(t *testing.T, c *Checker, m *model, s step) outcome {
	t.Helper()
	kind, id, e := c.Do(s)
	o := outcome{kind, id, e}
	if want := m.do(s); o != want {
		t.Fatal(s, o, "but not", want)
	}
	shows(t, c, m)
	return o
}

// isProof checks what Check, Text and Trim say of steps that prove it.
func isProof(t *testing.T, q question, want Report, n int, trimmed []step) {
	t.Helper()
	if r, i, e := Check(q.f, q.l); r != want || i != n || e != api.OK {
		t.Error(q, "Check:", r, i, e, "but not", want, n)
	}
	if l, i, e := Trim(q.f, q.l); !lratext.Same(l, trimmed) || i != -1 || e != api.OK {
		t.Error(q, "Trim:", l, i, e, "but not", trimmed)
	}
}

// noProof checks that Check, Text and Trim have an error for steps at an index, and nothing else.
func noProof(t *testing.T, q question, index int, want api.Errno) {
	t.Helper()
	if r, i, e := Check(q.f, q.l); r != (Report{}) || i != index || e != want {
		t.Error(q, "Check:", r, i, e, "but not", index, want)
	}
	if l, i, e := Trim(q.f, q.l); len(l) != 0 || i != index || e != want {
		t.Error(q, "Trim:", l, i, e, "but not", index, want)
	}
}

// reads checks what Text says.
func reads(t *testing.T, f formula.Formula, s string, want Report, n int, wrong api.Errno) {
	t.Helper()
	if r, i, e := Text(f, s); r != want || i != n || e != wrong {
		t.Errorf("Text of %.200q: %v, %d, %d, but not %v, %d, %d", s, r, i, e, want, n, wrong)
	}
}

// noLits are numbers that are no literals.
func noLits() []lits.Lit {
	return []lits.Lit{0, lits.MaxVar + 1, -lits.MaxVar - 1, 1<<32 + 1, math.MaxInt, math.MinInt}
}

// noSteps are steps that are not right.
func noSteps() []step {
	var l []step
	for _, x := range noLits() {
		l = append(l, add(9, clause{x}), add(9, clause{1, x, -1}, 1), add(9, clause{1, -1, x}))
	}
	for _, id := range []int{0, -1, -9, lratext.MaxID + 1, -lratext.MaxID, 1<<32 + 9, math.MaxInt, math.MinInt} {
		l = append(l, add(id, clause{2}, 1, 2), add(id, nil), add(id, clause{1, -1}))
		if id != 0 {
			l = append(l, del(id), del(id, 1))
		}
	}
	for _, h := range []int{0, lratext.MaxID + 1, -lratext.MaxID - 1, 1<<32 + 1, math.MaxInt, math.MinInt} {
		l = append(l, add(9, clause{2}, h), add(9, clause{2}, 1, 2, h), add(9, clause{1, -1}, -5, h), del(9, h), del(9, 1, h))
	}
	return append(l,
		del(9, -1), del(9, 1, -2), step{Delete: true, ID: 9, Lits: clause{1}}, step{Delete: true, ID: 9, Lits: clause{1}, Hints: []int{1}},
		add(9, slices.Repeat(clause{1, -1}, clauses.MaxLits/2+1)), add(9, clause{1, -1}, slices.Repeat([]int{1}, lratext.MaxHints+1)...),
		del(9, slices.Repeat([]int{1}, lratext.MaxHints+1)...), step{},
	)
}

// noFormula is a formula that is not right, and why.
type noFormula struct {
	f formula.Formula
	e api.Errno
}

func noFormulas() []noFormula {
	l := []noFormula{
		{of(-1), formula.ErrVars}, {of(lits.MaxVar+1, nil), formula.ErrVars}, {of(math.MinInt, clause{0}), formula.ErrVars},
		{of(0, make([]clause, formula.MaxClauses+1)...), api.ErrMany}, {of(1, nil, clause{2}), formula.ErrLit}, {of(1, clause{-2}, clause{0}), formula.ErrLit},
		{of(1, slices.Repeat(clause{1}, clauses.MaxLits+1)), clauses.ErrClause}, {of(0, clause{1}), formula.ErrLit}, {of(3, clause{1}, clause{3, -4}, nil), formula.ErrLit},
	}
	for _, x := range noLits() {
		l = append(l, noFormula{of(1, clause{x}), clauses.ErrClause}, noFormula{of(1, nil, clause{1, x}, clause{2}), clauses.ErrClause})
	}
	return l
}

func TestConstants(t *testing.T) {
	if ErrOrder != 100 || ErrOpen != 101 || ErrKind != 102 {
		t.Error(ErrOrder, ErrOpen, ErrKind)
	}
}

func TestExamples(t *testing.T) {
	f := example()
	isProof(t, question{f, proving()}, Report{true, 2, 0, 0, 6}, 2, proving())
	noProof(t, question{f, []step{add(5, clause{2}, 1), proving()[1]}}, 0, rat.ErrGroup)
	noProof(t, question{f, []step{add(4, clause{2}, 1, 2), proving()[1]}}, 0, ErrOrder)
	noProof(t, question{f, []step{proving()[0], del(5, 3), proving()[1]}}, 2, rat.ErrID)
	isProof(t, question{f, []step{add(5, clause{1, 2}, 1), add(6, clause{2}, 1, 2), add(7, nil, 6, 3, 4)}}, Report{true, 3, 0, 0, 7}, 3,
		[]step{add(6, clause{2}, 1, 2), add(7, nil, 6, 3, 4)})
	isProof(t, question{of(2, clause{1}, nil), proving()}, Report{true, 0, 0, 0, 2}, 0, nil)
}

// P10.1

// formulas are right formulas, and whether they have an empty clause.
func formulas() map[string]question {
	return map[string]question{
		"nothing": {of(0), nil}, "no clauses": {of(5), nil}, "no list": {formula.Formula{Vars: lits.MaxVar, Clauses: []clause{}}, nil},
		"empty alone": {of(0, nil), []step{{}}}, "empty with variables": {of(2, clause{}), []step{{}}}, "empty twice": {of(1, nil, clause{}), []step{{}}},
		"empty first": {of(2, nil, clause{1}, clause{2, -1}), []step{{}}}, "empty in the middle": {of(2, clause{1}, nil, clause{2, -1}), []step{{}}},
		"empty last": {of(2, clause{1}, clause{2, -1}, nil), []step{{}}}, "one": {of(1, clause{-1}), nil}, "wrong by units": {of(1, clause{-1}, clause{1}), nil},
		"any order": {of(9, clause{9, -3, 3, 9, 9}, clause{2, 1}, clause{9, -3, 3, 9, 9}, clause{-2, -2}, clause{1, 2}), nil}, "example": {example(), nil},
	}
}

func TestNew(t *testing.T) {
	for name, q := range formulas() {
		c := opened(t, q.f)
		proved := len(q.l) > 0
		if c.Proved() != proved || c.Last() != len(q.f.Clauses) || c.Report() != (Report{proved, 0, 0, 0, len(q.f.Clauses)}) {
			t.Error(name, c.Proved(), c.Last(), c.Report())
		}
		if !slices.EqualFunc(c.Entries(), numbered(q.f.Clauses...), sameEntry) {
			t.Error(name, c.Entries())
		}
	}
}

func TestNewOfManyClauses(t *testing.T) {
	f := of(lits.MaxVar)
	for i := range formula.MaxClauses {
		f.Clauses = append(f.Clauses, clause{lits.Lit(-1 - 3*i), lits.Lit(i + 1)})
	}
	f.Clauses[7] = slices.Repeat(clause{5, -lits.MaxVar}, clauses.MaxLits/2)
	c := opened(t, f)
	if c.Proved() || c.Last() != formula.MaxClauses || c.Report() != (Report{Largest: formula.MaxClauses}) || !slices.EqualFunc(c.Entries(), numbered(f.Clauses...), sameEntry) {
		t.Error(c.Proved(), c.Last(), c.Report())
	}
}

func TestWrongFormulas(t *testing.T) {
	for i, k := range noFormulas() {
		if c, e := New(k.f); c != nil || e != k.e {
			t.Error(i, c, e)
		}
		for _, l := range [][]step{nil, proving(), {{}}} {
			noProof(t, question{k.f, l}, 0, k.e)
		}
		for _, s := range []string{"", "x", "5 2 0 1 2 0\n6 0 5 3 4 0\n", "1 0 0\n1 0 0\n", strings.Repeat("\n", lratext.MaxText+1)} {
			reads(t, k.f, s, Report{}, 0, k.e)
		}
	}
}

// P10.2

// said is a step, and what Do says of it.
type said struct {
	s step
	outcome
}

func rupOf(s step) said { return said{s, outcome{kind: rat.RUP}} }
func ratOf(s step) said { return said{s, outcome{kind: rat.RAT}} }
func none(s step) said  { return said{s, outcome{}} }

func fails(s step, id int, e api.Errno) said { return said{s, outcome{0, id, e}} }

func TestDo(t *testing.T) {
	const top = lratext.MaxID
	e := example()
	sat := of(4, clause{1, 2}, clause{-1, 3}, clause{-2, -3}, clause{-3, 4})
	for name, k := range map[string]struct {
		f formula.Formula
		l []said
	}{
		"the example": {e, []said{rupOf(proving()[0]), rupOf(proving()[1])}},
		"clauses that are there, hold always, or have literals twice": {e, []said{
			rupOf(add(5, clause{1, 2}, 1)), rupOf(add(6, clause{2, 1}, 5)), rupOf(add(7, clause{1, -1})), rupOf(add(8, clause{3, 1, -3}, 99, -98, 97)),
			rupOf(add(9, clause{2, 2, 1, 2}, 6)), rupOf(add(10, clause{2, 2}, 9, 2)), rupOf(add(11, clause{1, -1})),
		}},
		"what is behind the conflict does not matter": {e, []said{
			rupOf(add(5, clause{2}, 1, 2, 4, 4, 77, -1, 88, -99)), rupOf(add(6, clause{1, 2}, 1, 6)), rupOf(add(7, nil, 5, 3, 4, 7, 8, -5)),
		}},
		"of a step without the clause that fails": {e, []said{
			fails(add(5, nil), 0, rup.ErrEnd), fails(add(5, nil, 1), 1, rup.ErrHint), fails(add(5, nil, -1), 0, rup.ErrEnd), fails(add(5, nil, 5), 5, rat.ErrID),
			rupOf(add(5, clause{2}, 1, 2)), fails(add(6, nil, 5), 0, rup.ErrEnd), fails(add(6, nil, 5, 3), 0, rup.ErrEnd), fails(add(6, nil, 5, 3, -4), 0, rup.ErrEnd),
			fails(add(6, nil, 5, 3, 1), 1, rup.ErrHint), rupOf(add(6, nil, 5, 3, 4)),
		}},
		"hints that are wrong": {sat, []said{
			fails(add(5, clause{2, 4}, 9, 8), 9, rat.ErrID), fails(add(5, clause{2, 4}, 1, 9, 8), 9, rat.ErrID), fails(add(5, clause{2, 4}, 1, 2, 5), 5, rat.ErrID),
			fails(add(5, clause{2, 4}, top), top, rat.ErrID), fails(add(5, clause{2, 4}, 1, 3), 3, rup.ErrHint), fails(add(5, clause{2, 4}, 1, 1), 1, rup.ErrHint),
			fails(add(5, clause{2, 4}, 2), 2, rup.ErrHint), fails(add(5, clause{2, 4}, 1, 2), 3, rat.ErrGroup), fails(add(5, clause{2, 4}, 1, 2, -3), 3, rat.ErrCheck),
			rupOf(add(5, clause{2, 4}, 1, 4, 2)), rupOf(add(6, clause{4, 2}, 4, 1, 2)), ratOf(add(7, clause{2, 4}, 1, 2, -3, 4)),
		}},
		"IDs": {e, []said{
			fails(add(4, clause{2}, 1, 2), 4, ErrOrder), fails(add(1, nil), 1, ErrOrder), fails(add(3, clause{1, -1}, 99), 3, ErrOrder),
			rupOf(add(7, clause{2}, 1, 2)), fails(add(7, clause{1, -1}), 7, ErrOrder), fails(add(6, clause{1, -1}), 6, ErrOrder), fails(add(5, clause{1, -1}), 5, ErrOrder),
			fails(add(8, clause{1}, 5), 5, rat.ErrID), fails(del(6), 6, ErrOrder), fails(del(0), 0, ErrOrder), fails(del(6, 99), 6, ErrOrder),
			rupOf(add(1000, clause{1, -1})), rupOf(add(top, clause{2}, 7)), fails(add(top, clause{1, -1}), top, ErrOrder), fails(add(top-1, clause{2}, 7), top-1, ErrOrder),
			none(del(top, 7)), fails(del(top-1), top-1, ErrOrder), fails(add(top, clause{2}, 7), top, ErrOrder), none(del(top, top)),
		}},
		"Deletes": {e, []said{
			none(del(4)), none(del(4)), fails(del(4, 5), 5, rat.ErrID), fails(del(4, 1, 2, 1), 1, rat.ErrID), fails(del(4, 1, 1, 9), 1, rat.ErrID), fails(del(4, 3, 9, 3), 9, rat.ErrID),
			none(del(4, 3)), fails(del(4, 3), 3, rat.ErrID), fails(del(4, 4, 3), 3, rat.ErrID), rupOf(add(5, clause{2}, 1, 2)), fails(add(6, nil, 5, 3, 4), 3, rat.ErrID),
			none(del(5, 1, 2)), rupOf(add(6, clause{2, 1}, 5)), none(del(6, 6)), fails(add(7, clause{2, 1}, 6), 6, rat.ErrID), fails(add(6, clause{2, 1}, 5), 6, ErrOrder),
			none(del(6, 4, 5)), none(del(6)), fails(del(6, 4), 4, rat.ErrID), fails(del(7, 7), 7, rat.ErrID), ratOf(add(7, clause{-2})), ratOf(add(8, clause{1, 2})),
		}},
		"a Delete with a greater ID": {e, []said{
			none(del(9, 1)), fails(add(9, clause{1, -1}), 9, ErrOrder), fails(del(8), 8, ErrOrder), none(del(9)), rupOf(add(10, clause{1, -1})), none(del(top)), fails(add(5, nil), 5, ErrOrder),
		}},
		"no clauses": {of(0), []said{
			none(del(0)), fails(del(0, 1), 1, rat.ErrID), fails(add(1, nil), 0, rup.ErrEnd), fails(add(1, nil, 1), 1, rat.ErrID), fails(add(1, clause{1}, -1), 1, rat.ErrGroup),
			ratOf(add(1, clause{lits.MaxVar})), none(del(1, 1)), ratOf(add(2, clause{-lits.MaxVar})), ratOf(add(5, clause{1, 2})), ratOf(add(6, clause{1, -2})),
		}},
		"one step proves it": {of(1, clause{1}, clause{-1}), []said{
			fails(add(3, nil, 1), 0, rup.ErrEnd), fails(add(3, nil, 1, 1), 1, rup.ErrHint), rupOf(add(8, nil, 2, 1)),
		}},
		"steps of RAT": {sat, []said{
			ratOf(add(5, clause{5, 1})), ratOf(add(6, clause{-5, -1}, -5)), ratOf(add(7, clause{5, 1}, -6)), ratOf(add(8, clause{6})), fails(add(9, clause{-6}, -8), 8, rat.ErrCheck),
			fails(add(9, clause{-6}), 8, rat.ErrGroup), none(del(8, 8)), fails(add(9, clause{-6}, -8), 8, rat.ErrGroup), ratOf(add(9, clause{-6})),
		}},
		// The candidates of the pivot 3 are 3 and 4.
		"groups": {of(5, clause{1, 2}, clause{1, -2}, clause{-3, 1}, clause{-3, 4}, clause{4, 5}, clause{4, -5}), []said{
			fails(add(7, clause{3}), 3, rat.ErrGroup), fails(add(7, clause{3}, -3), 4, rat.ErrGroup), fails(add(7, clause{3}, -4), 3, rat.ErrGroup),
			fails(add(7, clause{3}, -4, -3), 3, rat.ErrGroup), fails(add(7, clause{3}, -3, -3, -4), 3, rat.ErrGroup), fails(add(7, clause{3}, -3, -4, -1), 1, rat.ErrGroup),
			fails(add(7, clause{3}, -3, -4, -7), 7, rat.ErrGroup), fails(add(7, clause{3}, -3, -4), 3, rat.ErrCheck), fails(add(7, clause{3}, -3, 1, 2, -4), 4, rat.ErrCheck),
			fails(add(7, clause{3}, -3, 9, -4), 9, rat.ErrID), fails(add(7, clause{3}, -3, 1, 2, -4, 5, 8), 8, rat.ErrID), fails(add(7, clause{3}, -3, 3, -4), 3, rup.ErrHint),
			fails(add(7, clause{3}, 1, -3, -4), 1, rup.ErrHint), fails(add(7, clause{3}, 9, -3, -4), 9, rat.ErrID), ratOf(add(7, clause{3}, -3, 1, 2, -4, 5, 6)),
			// The literal 1 is assigned, so that the hints of the group 3 do not matter.
			ratOf(add(8, clause{3, -1}, -3, -4, 6, 5)), ratOf(add(9, clause{3, -1}, -3, 77, 88, -4, 5, 6, 99)), fails(add(10, clause{-1, 3}, -3, -4), 1, rat.ErrGroup),
			none(del(9, 4)), fails(add(10, clause{3}, -3, 2, 1, -4), 4, rat.ErrGroup), ratOf(add(10, clause{3}, -3, 2, 1)), none(del(10, 3, 10)), ratOf(add(11, clause{3})),
		}},
		"a formula with an empty clause": {of(2, clause{1}, nil), []said{
			none(add(3, nil, 2)), none(step{}), none(add(1, nil)), none(del(9, 77)), none(add(9, clause{0}, 0)), none(add(3, clause{1, -1})),
		}},
		"behind the end": {e, []said{
			rupOf(proving()[0]), rupOf(proving()[1]), none(add(7, clause{1, -1})), none(add(8, clause{5})), none(add(6, nil, 99)), none(step{}), none(del(9, 1)), none(del(1, 99)),
			none(add(-5, clause{0}, math.MinInt)), none(proving()[0]), none(proving()[1]),
		}},
	} {
		t.Run(name, func(t *testing.T) {
			c, m := opened(t, k.f), modelOf(k.f)
			shows(t, c, m)
			for i, x := range k.l {
				if o := doing(t, c, m, x.s); o != x.outcome {
					t.Error(i, o, "but not", x.outcome)
				}
			}
		})
	}
}

func TestDoOfWrongSteps(t *testing.T) {
	f := example()
	for _, s := range noSteps() {
		for _, l := range [][]step{nil, {proving()[0]}, {del(4, 3), add(7, clause{3}), del(8)}} {
			c, m := opened(t, f), modelOf(f)
			for _, before := range l {
				doing(t, c, m, before)
			}
			if o := doing(t, c, m, s); o != (outcome{0, 0, lratext.ErrStep}) {
				t.Error(s, o)
			}
		}
		noProof(t, question{f, []step{s}}, 0, lratext.ErrStep)
		noProof(t, question{f, []step{proving()[0], s, proving()[1]}}, 1, lratext.ErrStep)
		isProof(t, question{f, append(proving(), s)}, Report{true, 2, 0, 0, 6}, 2, proving())
		isProof(t, question{of(0, nil), []step{s}}, Report{true, 0, 0, 0, 1}, 0, nil)
	}
}

// TestDoOfAllShortRows does all rows of four steps out of some.
func TestDoOfAllShortRows(t *testing.T) {
	steps := []step{
		add(5, clause{2}, 1, 2), add(6, nil, 5, 3, 4), add(6, clause{2, 1}, 5), add(7, clause{-2}, 3, 4), add(8, nil, 5, 7), add(9, clause{3, 1}), add(10, clause{-3, -1}, -9),
		del(4, 3), del(5, 5), del(7, 1, 2), del(5, 3, 5, 3), del(9, 9, 4), del(10), add(9, clause{4, -4}, 5),
	}
	f := example()
	kinds := map[outcome]int{}
	var row func(before []step)
	row = func(before []step) {
		if len(before) < 3 {
			for _, s := range steps {
				row(append(slices.Clone(before), s))
			}
			return
		}
		for _, s := range steps {
			c, m := opened(t, f), modelOf(f)
			for _, b := range before {
				c.Do(b)
				m.do(b)
			}
			kinds[doing(t, c, m, s)]++
		}
	}
	row(nil)
	if len(kinds) < 16 {
		t.Error(len(kinds), kinds)
	}
}

func TestDoLikeTheModel(t *testing.T) {
	type feature struct {
		kind   uint8
		delete bool
		e      api.Errno
	}
	seen := map[feature]int{}
	for _, q := range drawnWith(10, 6000, 2) {
		c, m := opened(t, q.f), modelOf(q.f)
		shows(t, c, m)
		for _, s := range q.l {
			proved := m.proved
			o := doing(t, c, m, s)
			if !proved {
				seen[feature{o.kind, s.Delete, o.e}]++
			}
		}
	}
	for _, f := range []feature{
		{0, true, api.OK}, {rat.RUP, false, api.OK}, {rat.RAT, false, api.OK}, {0, false, rat.ErrID}, {0, true, rat.ErrID}, {0, false, ErrOrder},
		{0, false, rup.ErrHint}, {0, false, rup.ErrEnd}, {0, false, rat.ErrGroup}, {0, false, rat.ErrCheck},
	} {
		if seen[f] < 20 {
			t.Error(f, seen[f], seen)
		}
	}
}

func TestDoOfMostEntries(t *testing.T) {
	f := of(3, slices.Repeat([]clause{{1, 2}}, formula.MaxClauses)...)
	c := opened(t, f)
	always := clause{1, -1}
	for id := formula.MaxClauses + 1; id <= rat.MaxEntries+1; id++ {
		if kind, at, e := c.Do(add(id, always)); kind != rat.RUP || at != 0 || e != api.OK {
			t.Fatal(id, kind, at, e)
		}
	}
	const next = rat.MaxEntries + 2
	for _, s := range []step{add(next, always), add(next, nil), add(next, clause{1}, 77), add(next, clause{1}, next), add(next, clause{1, -1}, -9)} {
		if kind, at, e := c.Do(s); kind != 0 || at != 0 || e != rat.ErrEntries || c.Last() != next-1 {
			t.Error(s, kind, at, e, c.Last())
		}
	}
	for _, k := range []said{
		fails(add(next-1, always), next-1, ErrOrder), fails(step{}, 0, lratext.ErrStep), fails(del(next, 5, next), next, rat.ErrID), none(del(next - 1)),
		fails(add(next, always), 0, rat.ErrEntries), none(del(next-1, 1)), rupOf(add(next, always)), fails(add(next+1, always), 0, rat.ErrEntries), none(del(next, 2, next-1)),
		fails(add(next+1, clause{-1, 3}), 3, rat.ErrGroup), ratOf(add(next+1, clause{3})), rupOf(add(next+2, clause{1, 2}, formula.MaxClauses)), fails(add(next+3, always), 0, rat.ErrEntries),
	} {
		if kind, id, e := c.Do(k.s); (outcome{kind, id, e}) != k.outcome {
			t.Error(k.s.ID, kind, id, e)
		}
	}
	want := Report{false, rat.MaxEntries - formula.MaxClauses + 4, 3, 1, rat.MaxEntries + 1}
	if c.Report() != want || c.Last() != next+2 || c.Proved() {
		t.Error(c.Report(), c.Last(), c.Proved())
	}
	l := c.Entries()
	if len(l) != rat.MaxEntries+1 || l[0].ID != 3 || l[len(l)-1].ID != next+2 || !slices.IsSortedFunc(l, func(a, b entry) int { return a.ID - b.ID }) {
		t.Error(len(l))
	}
}

func TestNoCheckers(t *testing.T) {
	for i, c := range []*Checker{nil, {}, new(Checker)} {
		for range 2 {
			if c.Proved() || c.Last() != 0 || c.Report() != (Report{}) || len(c.Entries()) != 0 {
				t.Error(i, c.Last(), c.Report())
			}
			for _, s := range append(noSteps(), add(1, clause{1}), del(0), add(1, nil), del(5, 1), add(1, clause{1, -1})) {
				if kind, id, e := c.Do(s); kind != 0 || id != 0 || e != api.ErrNil {
					t.Error(i, s, kind, id, e)
				}
			}
		}
	}
}

func TestCheckersShareNothing(t *testing.T) {
	f := example()
	a, b := opened(t, f), opened(t, f)
	m, n := modelOf(f), modelOf(f)
	doing(t, a, m, del(4, 1, 3))
	doing(t, a, m, add(5, clause{3}))
	shows(t, b, n)
	doing(t, b, n, add(6, clause{-3}))
	doing(t, b, n, add(7, clause{2}, 1, 2))
	doing(t, b, n, add(8, nil, 7, 3, 4))
	shows(t, a, m)
	doing(t, a, m, add(6, clause{-3}))
	doing(t, a, m, add(6, clause{4}))
}

// P10.3

func TestCheck(t *testing.T) {
	e := example()
	first, last := proving()[0], proving()[1]
	for name, k := range map[string]struct {
		q    question
		want Report
		n    int
		e    api.Errno
	}{
		"no steps":                      {question{e, nil}, Report{}, 0, ErrOpen},
		"an empty list":                 {question{e, []step{}}, Report{}, 0, ErrOpen},
		"nothing at all":                {question{of(0), nil}, Report{}, 0, ErrOpen},
		"steps that prove nothing":      {question{e, []step{first, del(5, 4), add(6, clause{2}, 5)}}, Report{}, 3, ErrOpen},
		"Deletes alone":                 {question{e, []step{del(4), del(4, 1, 2, 3, 4), del(9)}}, Report{}, 3, ErrOpen},
		"an empty clause, no steps":     {question{of(0, nil), nil}, Report{true, 0, 0, 0, 1}, 0, api.OK},
		"an empty clause first":         {question{of(1, nil, clause{1}), proving()}, Report{true, 0, 0, 0, 2}, 0, api.OK},
		"an empty clause in the middle": {question{of(1, clause{1}, nil, clause{-1}), []step{{}, {}}}, Report{true, 0, 0, 0, 3}, 0, api.OK},
		"an empty clause last":          {question{of(1, clause{1}, nil), []step{add(3, clause{2})}}, Report{true, 0, 0, 0, 2}, 0, api.OK},
		"right steps behind the end":    {question{e, []step{first, last, add(7, clause{3}), del(7, 1), add(8, nil, 6)}}, Report{true, 2, 0, 0, 6}, 2, api.OK},
		"wrong steps behind the end":    {question{e, []step{first, last, add(6, nil, 99), del(1, 1), {}, add(1, clause{0})}}, Report{true, 2, 0, 0, 6}, 2, api.OK},
		"Deletes between":               {question{e, []step{first, del(5, 1, 2), last}}, Report{true, 2, 1, 0, 5}, 3, api.OK},
		"Deletes first, and again":      {question{e, []step{del(4), first, del(7, 2), del(7, 1), del(7), add(8, nil, 5, 3, 4)}}, Report{true, 2, 4, 0, 5}, 6, api.OK},
		"the greatest number is between": {question{e, []step{add(5, clause{1, -1}), add(6, clause{3}), add(7, clause{2}, 1, 2), del(7, 1, 2, 5, 6), add(8, clause{-4}), add(9, nil, 7, 3, 4)}},
			Report{true, 5, 1, 2, 7}, 6, api.OK},
		"steps of RAT":             {question{e, []step{add(5, clause{3, 1}), add(6, clause{-3, -1}, -5), add(7, clause{2}, 1, 2), add(9, nil, 7, 3, 4)}}, Report{true, 4, 0, 2, 8}, 4, api.OK},
		"the clause that is there": {question{of(1, clause{1}, clause{-1}), []step{add(3, clause{1}, 1), add(4, clause{1}, 3), add(5, nil, 2, 4)}}, Report{true, 3, 0, 0, 5}, 3, api.OK},
		"gaps":                     {question{e, []step{add(50, clause{2}, 1, 2), add(lratext.MaxID, nil, 50, 3, 4)}}, Report{true, 2, 0, 0, 6}, 2, api.OK},
		"the first is wrong":       {question{e, []step{add(5, clause{2}, 1), last}}, Report{}, 0, rat.ErrGroup},
		"the second is wrong":      {question{e, []step{first, add(6, nil, 5, 3)}}, Report{}, 1, rup.ErrEnd},
		"the first of two":         {question{e, []step{first, add(6, clause{1, 1}, 3, 3), {}}}, Report{}, 1, rup.ErrHint},
		"a wrong ID first":         {question{e, []step{add(4, clause{0})}}, Report{}, 0, lratext.ErrStep},
		"out of order":             {question{e, []step{add(6, clause{2}, 1, 2), add(5, nil, 99)}}, Report{}, 1, ErrOrder},
		"an ID twice":              {question{e, []step{first, add(5, nil, 5, 3, 4)}}, Report{}, 1, ErrOrder},
		"a Delete of none":         {question{e, []step{first, del(5, 3, 6), last}}, Report{}, 1, rat.ErrID},
		"of what a Delete took":    {question{e, []step{first, del(5, 5), last}}, Report{}, 2, rat.ErrID},
		"a Delete out of order":    {question{e, []step{first, del(4, 99), last}}, Report{}, 1, ErrOrder},
		"a group leads to nothing": {question{e, []step{add(5, clause{3}), add(6, clause{-3}, -5), last}}, Report{}, 1, rat.ErrCheck},
		"all taken away":           {question{e, []step{del(4, 1, 2, 3, 4), add(5, nil, 1)}}, Report{}, 1, rat.ErrID},
	} {
		t.Run(name, func(t *testing.T) {
			if r, n, e := Check(k.q.f, k.q.l); r != k.want || n != k.n || e != k.e {
				t.Error(r, n, e)
			}
			if r, n, e := modelCheck(k.q); r != k.want || n != k.n || e != k.e {
				t.Error("the model:", r, n, e)
			}
		})
	}
}

func TestCheckLikeTheModel(t *testing.T) {
	seen := map[api.Errno]int{}
	behind, texts := 0, 0
	for _, q := range drawn(11, 12000) {
		want, n, wrong := modelCheck(q)
		if r, i, e := Check(q.f, q.l); r != want || i != n || e != wrong {
			t.Fatal(q, r, i, e, want, n, wrong)
		}
		seen[wrong]++
		if wrong == api.OK && n < len(q.l) {
			behind++
		}
		if s, _, e := lratext.Write(q.l); e == api.OK {
			texts++
			reads(t, q.f, s, want, n, wrong)
		}
	}
	for _, e := range []api.Errno{api.OK, ErrOpen, ErrOrder, rat.ErrID, rup.ErrHint, rup.ErrEnd, rat.ErrGroup} {
		if seen[e] < 20 {
			t.Error(e, seen)
		}
	}
	if behind < 100 || texts < 5000 {
		t.Error(behind, texts)
	}
}

func TestCheckOfMoreStepsThanAText(t *testing.T) {
	var l []step
	for i := range lratext.MaxSteps {
		l = append(l, del(4+i))
	}
	last := lratext.MaxSteps + 3
	l = append(l, add(last+1, clause{2}, 1, 2), add(last+2, nil, last+1, 3, 4))
	isProof(t, question{example(), l}, Report{true, 2, lratext.MaxSteps, 0, 6}, lratext.MaxSteps+2, l[lratext.MaxSteps:])
	noProof(t, question{example(), l[:lratext.MaxSteps+1]}, lratext.MaxSteps+1, ErrOpen)
}

func TestText(t *testing.T) {
	e := example()
	proved := Report{true, 2, 0, 0, 6}
	const first, last = "5 2 0 1 2 0\n", "6 0 5 3 4 0\n"
	for _, k := range []struct {
		s    string
		want Report
		n    int
		e    api.Errno
	}{
		{first + last, proved, 2, api.OK}, {first + last[:len(last)-1], proved, 2, api.OK}, {"c of 2\n\n" + first + "c\nc \n\n" + last + "\nc the end", proved, 2, api.OK},
		{"", Report{}, 0, ErrOpen}, {"c nothing", Report{}, 0, ErrOpen}, {"\n\n\n", Report{}, 0, ErrOpen}, {first, Report{}, 1, ErrOpen}, {"c 1\n" + first + "c 2\n5 d 0\n", Report{}, 2, ErrOpen},
		{first + "5 d 1 2 0\n" + last, Report{true, 2, 1, 0, 5}, 3, api.OK}, {first + "5 d 3 0\n" + last, Report{}, 2, rat.ErrID}, {"4 d 0\n" + last, Report{}, 1, rat.ErrID},
		{"5 3 1 0 0\n6 -3 -1 0 -5 0\n7 2 0 1 2 0\n8 0 7 3 4 0\n", Report{true, 4, 0, 2, 8}, 4, api.OK},
		{"4 2 0 1 2 0\n" + last, Report{}, 0, ErrOrder}, {"c\nc\n5 2 0 1 0\n" + last, Report{}, 0, rat.ErrGroup}, {"c\n" + first + "c\n6 0 5 3 0", Report{}, 1, rup.ErrEnd},
		{first + last + "7 1 0 1 0\n", proved, 2, api.OK}, {first + last + "7 1 0 99 0\n8 d 77 0\n", proved, 2, api.OK},
		// A line that is none is found first, wherever it is.
		{first + last + "x", Report{}, 3, lratext.ErrText}, {first + last + "\nc\n7 d -1 0\n", Report{}, 5, lratext.ErrText}, {first + last + "6 0 5 3 4 0\n", Report{}, 3, lratext.ErrStep},
		{"4 2 0 1 2 0\nx", Report{}, 2, lratext.ErrText}, {"x\n" + last, Report{}, 1, lratext.ErrText}, {"5 2 0 77 0\n5 0 0\n", Report{}, 2, lratext.ErrStep}, {" ", Report{}, 1, lratext.ErrText},
		{first + last + strings.Repeat("\n", lratext.MaxText), Report{}, 0, api.ErrLong},
	} {
		reads(t, e, k.s, k.want, k.n, k.e)
	}
	// With an empty clause, too, the text is read.
	empty := of(1, clause{1}, nil)
	for _, k := range []struct {
		s    string
		want Report
		n    int
		e    api.Errno
	}{
		{"", Report{true, 0, 0, 0, 2}, 0, api.OK}, {"1 0 99 0\n", Report{true, 0, 0, 0, 2}, 0, api.OK}, {"1 0 99 0\n1 0 99 0\n", Report{}, 2, lratext.ErrStep},
		{"c\n01 0 0\n", Report{}, 2, lratext.ErrText}, {strings.Repeat("c\n", lratext.MaxText/2) + "\n", Report{}, 0, api.ErrLong},
	} {
		reads(t, empty, k.s, k.want, k.n, k.e)
	}
	many := strings.Repeat("1 d 0\n", lratext.MaxSteps)
	reads(t, of(1, clause{1}), many, Report{}, lratext.MaxSteps, ErrOpen)
	reads(t, of(1, clause{1}), many+"c\n1 d 0\n", Report{}, lratext.MaxSteps+2, api.ErrMany)
}

// P10.4

func TestTrim(t *testing.T) {
	e := example()
	first, last := proving()[0], proving()[1]
	for name, k := range map[string]struct {
		q    question
		want []step
		n    int
		e    api.Errno
	}{
		"trimmed already":       {question{e, proving()}, proving(), -1, api.OK},
		"Deletes":               {question{e, []step{del(4), first, del(5, 1, 2), last}}, proving(), -1, api.OK},
		"a step not needed":     {question{e, []step{first, add(6, clause{2, 3}, 5), add(7, nil, 5, 3, 4)}}, []step{first, add(7, nil, 5, 3, 4)}, -1, api.OK},
		"steps of one another":  {question{e, []step{first, add(6, clause{2, 3}, 5), add(7, clause{2, 3, 4}, 6), add(8, nil, 5, 3, 4)}}, []step{first, add(8, nil, 5, 3, 4)}, -1, api.OK},
		"behind the conflict":   {question{e, []step{add(5, clause{2}, 1, 2, 3, 99, -1, 77), add(6, clause{-2}, 3, 4, 5), add(7, nil, 5, 6, 1, 8, 7)}}, []step{first, add(6, clause{-2}, 3, 4), add(7, nil, 5, 6)}, -1, api.OK},
		"named behind alone":    {question{e, []step{first, add(6, clause{-2}, 3, 4), add(7, nil, 5, 3, 4, 6)}}, []step{first, add(7, nil, 5, 3, 4)}, -1, api.OK},
		"hints not needed":      {question{of(4, clause{3}, clause{-3, 4}, clause{1, 2}, clause{-1, 2}, clause{-2}), []step{add(6, clause{2}, 1, 2, 3, 4), add(8, nil, 1, 6, 2, 5)}}, []step{add(6, clause{2}, 3, 4), add(8, nil, 6, 5)}, -1, api.OK},
		"what holds always":     {question{e, []step{first, add(6, clause{3, -3}, 99), add(7, clause{3, -3}, 6, -5), add(8, nil, 5, 3, 4, 6, 7)}}, []step{first, add(8, nil, 5, 3, 4)}, -1, api.OK},
		"twice the same":        {question{e, []step{first, add(6, clause{2, 2}, 1, 2), add(8, nil, 6, 3, 4, 5)}}, []step{add(6, clause{2, 2}, 1, 2), add(8, nil, 6, 3, 4)}, -1, api.OK},
		"steps behind the end":  {question{e, []step{first, last, add(7, clause{3}), add(8, nil, 5), {}, del(1)}}, proving(), -1, api.OK},
		"an empty clause":       {question{of(1, clause{1}, nil), proving()}, nil, -1, api.OK},
		"an empty clause first": {question{of(1, nil), []step{add(2, clause{2}), {}}}, nil, -1, api.OK},
		"of units":              {question{of(1, clause{1}, clause{-1}), []step{add(3, clause{2, 1}, 1), add(9, nil, 2, 1)}}, []step{add(9, nil, 2, 1)}, -1, api.OK},
		"gaps":                  {question{e, []step{add(70, clause{2}, 1, 2), del(90, 1), add(91, clause{2}, 70), add(lratext.MaxID, nil, 91, 3, 4)}}, []step{add(70, clause{2}, 1, 2), add(91, clause{2}, 70), add(lratext.MaxID, nil, 91, 3, 4)}, -1, api.OK},
		"RAT first":             {question{e, []step{add(5, clause{3}), add(6, clause{2}, 1, 2), add(7, nil, 6, 3, 4)}}, nil, 0, ErrKind},
		"RAT in the middle":     {question{e, []step{first, del(5), add(6, clause{-7}), add(7, clause{8}), add(8, nil, 5, 3, 4)}}, nil, 2, ErrKind},
		"RAT that is needed":    {question{e, []step{add(5, clause{3, 2}), add(6, clause{-3, 2}, 1, 2), add(7, clause{2}, 5, 6), add(8, nil, 7, 3, 4)}}, nil, 0, ErrKind},
		"RAT behind the end":    {question{e, []step{first, last, add(7, clause{3})}}, proving(), -1, api.OK},
		"RAT, and wrong":        {question{e, []step{add(5, clause{3}), add(6, clause{2}, 1, 2), add(7, nil, 6, 3)}}, nil, 2, rup.ErrEnd},
		"RAT, and open":         {question{e, []step{add(5, clause{3}), add(6, clause{2}, 1, 2)}}, nil, 2, ErrOpen},
		"no steps":              {question{e, nil}, nil, 0, ErrOpen},
		"open":                  {question{e, []step{first, del(5)}}, nil, 2, ErrOpen},
	} {
		t.Run(name, func(t *testing.T) {
			if l, n, e := Trim(k.q.f, k.q.l); !lratext.Same(l, k.want) || n != k.n || e != k.e {
				t.Error(l, n, e)
			}
			if l, n, e := modelTrim(k.q); !lratext.Same(l, k.want) || n != k.n || e != k.e {
				t.Error("the model:", l, n, e)
			}
		})
	}
}

func TestTrimLikeTheModel(t *testing.T) {
	seen := map[api.Errno]int{}
	less, fewer := 0, 0
	for _, q := range drawn(12, 12000) {
		want, n, wrong := modelTrim(q)
		l, i, e := Trim(q.f, q.l)
		if !lratext.Same(l, want) || i != n || e != wrong {
			t.Fatal(q, l, i, e, want, n, wrong)
		}
		seen[e]++
		_, done, _ := Check(q.f, q.l)
		if e == api.OK && len(l) < done-1 {
			less++
		}
		for _, s := range l {
			at := slices.IndexFunc(q.l, func(x step) bool { return x.ID == s.ID && !x.Delete })
			if len(s.Hints) < len(q.l[at].Hints) {
				fewer++
			}
		}
	}
	if seen[api.OK] < 500 || seen[ErrKind] < 200 || seen[ErrOpen] < 200 || less < 100 || fewer < 100 {
		t.Error(seen, less, fewer)
	}
}

// P10.5

// models returns in how many models clauses hold, which may have more variables than a formula.
func models(t *testing.T, vars int, l []entry) int {
	t.Helper()
	f := of(vars)
	for _, x := range l {
		f.Clauses = append(f.Clauses, x.Lits)
	}
	n, e := formula.Count(f)
	if e != api.OK {
		t.Fatal(e)
	}
	return n
}

func TestWhatIsProvedIsSo(t *testing.T) {
	proofs, withRAT, open := 0, 0, 0
	for _, q := range drawn(13, 12000) {
		c := opened(t, q.f)
		satisfied := models(t, q.f.Vars, numbered(q.f.Clauses...)) > 0
		for _, s := range q.l {
			c.Do(s)
			if satisfied {
				open++
			}
			if satisfied && models(t, q.f.Vars+2, c.Entries()) == 0 {
				t.Fatal(q, c.Entries())
			}
		}
		if c.Proved() {
			proofs++
			if satisfied {
				t.Fatal(q)
			}
			if c.Report().RATs > 0 {
				withRAT++
			}
		}
	}
	if proofs < 500 || withRAT < 100 || open < 2000 {
		t.Error(proofs, withRAT, open)
	}
}

func TestWhatIsTrimmedProvesIt(t *testing.T) {
	proofs := 0
	for _, q := range drawn(14, 6000) {
		l, _, e := Trim(q.f, q.l)
		if e != api.OK {
			continue
		}
		proofs++
		r, n, e := Check(q.f, l)
		if r != (Report{true, len(l), 0, 0, len(q.f.Clauses) + len(l)}) || n != len(l) || e != api.OK {
			t.Fatal(q, l, r, n, e)
		}
		if again, i, e := Trim(q.f, l); !lratext.Same(again, l) || i != -1 || e != api.OK {
			t.Fatal(q, l, again, i, e)
		}
		if i, e := lratext.Check(l); i != -1 || e != api.OK {
			t.Fatal(q, l, i, e)
		}
	}
	if proofs < 500 {
		t.Error(proofs)
	}
}

// spaced returns steps behind a formula of which the IDs leave one out ahead of each.
func spaced(q question) []step {
	n := len(q.f.Clauses)
	apart := func(id int) int {
		switch {
		case id > n:
			return n + 2*(id-n)
		case id < -n:
			return -n + 2*(id+n)
		}
		return id
	}
	l := lratext.Copy(q.l)
	for i := range l {
		l[i].ID = apart(l[i].ID)
		for j, h := range l[i].Hints {
			l[i].Hints[j] = apart(h)
		}
	}
	return l
}

func TestStepsByTheirOwn(t *testing.T) {
	d := draws(15)
	done := 0
	for _, q := range drawn(16, 3000) {
		c, more := opened(t, q.f), opened(t, q.f)
		for i, s := range spaced(q) {
			if c.Proved() {
				break
			}
			kind, _, e := c.Do(s)
			if e != api.OK {
				continue
			}
			// What is added to the others holds always, or has a variable of its own: all that was done still is.
			x := d.clause(q.f.Vars+2, 1, 3)
			if i%2 == 0 {
				x = append(x, -x[0])
			} else {
				x = clause{lits.Lit(100 + i), -200}
			}
			if more.Last() < s.ID-1 {
				if _, _, e := more.Do(add(s.ID-1, x)); e != api.OK {
					t.Fatal(q, i, e)
				}
			}
			if again, id, e := more.Do(s); again != kind || id != 0 || e != api.OK {
				t.Fatal(q, i, again, id, e)
			}
			if len(more.Entries()) > len(c.Entries())+2 {
				done++
			}
		}
	}
	if done < 1000 {
		t.Error(done)
	}
}

func TestWithAStepLeftOut(t *testing.T) {
	left := 0
	for _, q := range drawn(17, 6000) {
		_, n, e := Check(q.f, q.l)
		if e != api.OK {
			continue
		}
		for i, s := range q.l[:n] {
			named := slices.ContainsFunc(q.l[:n], func(x step) bool { return slices.Contains(x.Hints, s.ID) || slices.Contains(x.Hints, -s.ID) })
			if s.Delete || named || len(s.Lits) == 0 {
				continue
			}
			left++
			r, m, e := Check(q.f, slices.Concat(q.l[:i], q.l[i+1:]))
			if !r.Proved || m != n-1 || e != api.OK {
				t.Fatal(q, i, r, m, e)
			}
		}
	}
	if left < 500 {
		t.Error(left)
	}
}

// Long proofs

// chain returns a formula in which a literal follows of the one before it, up to the last one, which must not hold; and a proof, a literal a step.
func chain(n int) question {
	q := question{f: of(n, clause{1})}
	for v := lits.Lit(1); int(v) < n; v++ {
		q.f.Clauses = append(q.f.Clauses, clause{-v, v + 1})
		q.l = append(q.l, add(n+1+int(v), clause{v + 1}, n+int(v), int(v)+1))
	}
	q.l[0].Hints[0] = 1
	q.f.Clauses = append(q.f.Clauses, clause{lits.Lit(-n)})
	q.l = append(q.l, add(2*n+1, nil, n+1, 2*n))
	return q
}

func TestLongProofs(t *testing.T) {
	const n = formula.MaxClauses - 1
	q := chain(n)
	isProof(t, q, Report{true, n, 0, 0, 2*n + 1}, n, q.l)
	s, _, e := lratext.Write(q.l)
	if e != api.OK {
		t.Fatal(e)
	}
	reads(t, q.f, s, Report{true, n, 0, 0, 2*n + 1}, n, api.OK)
	// With a Delete behind each step there are never more than two clauses more.
	var l []step
	for i, x := range q.l {
		l = append(l, x)
		if i > 0 {
			l = append(l, del(x.ID, x.Hints[0]))
		}
	}
	isProof(t, question{q.f, l}, Report{true, n, n - 2, 0, n + 3}, 2*n-2, q.l)
}

func TestLongProofsOfRAT(t *testing.T) {
	f := of(3, slices.Repeat([]clause{{1, 2}, {-1, 2}, {2, -1, 1}, {-3, 3}}, formula.MaxClauses/4)...)
	const last, n = formula.MaxClauses, 1 << 15
	var l []step
	// Each variable is made to be 1: the second clause of it has the first one as its candidate.
	for i := range n {
		x, id := lits.Lit(10+i), last+2*i+1
		l = append(l, add(id, clause{x, -1}), add(id+1, clause{-x, 1}, -id))
	}
	noProof(t, question{f, l}, 2*n, ErrOpen)
	c := opened(t, f)
	for i, s := range l {
		if kind, id, e := c.Do(s); kind != rat.RAT || id != 0 || e != api.OK {
			t.Fatal(i, kind, id, e)
		}
	}
	if c.Report() != (Report{false, 2 * n, 0, 2 * n, last + 2*n}) {
		t.Error(c.Report())
	}
}

// TestLongProofsOfOnePivot has a pivot whose negation is in many clauses, none of which is a candidate any more.
func TestLongProofsOfOnePivot(t *testing.T) {
	const last, half, n = formula.MaxClauses, formula.MaxClauses / 2, 1 << 15
	c := opened(t, of(2, append(slices.Repeat([]clause{{-1, 2}}, half), slices.Repeat([]clause{{-1, 2, 1}}, half)...)...))
	if kind, id, e := c.Do(add(last+1, clause{1})); kind != 0 || id != 1 || e != rat.ErrGroup {
		t.Fatal(kind, id, e)
	}
	for i := range half / lratext.MaxHints {
		s := del(last)
		for j := range lratext.MaxHints {
			s.Hints = append(s.Hints, i*lratext.MaxHints+j+1)
		}
		if kind, id, e := c.Do(s); kind != 0 || id != 0 || e != api.OK {
			t.Fatal(i, kind, id, e)
		}
	}
	for i := range n {
		if kind, id, e := c.Do(add(last+i+1, clause{1, 3})); kind != rat.RAT || id != 0 || e != api.OK {
			t.Fatal(i, kind, id, e)
		}
	}
	if c.Report() != (Report{false, n, half / lratext.MaxHints, n, last}) || len(c.Entries()) != half+n {
		t.Error(c.Report())
	}
}

func TestLongHints(t *testing.T) {
	const n = lratext.MaxHints - 1
	q := chain(n)
	var hints []int
	for i := range n + 1 {
		hints = append(hints, i+1)
	}
	one := []step{add(n+2, nil, hints...)}
	isProof(t, question{q.f, one}, Report{true, 1, 0, 0, n + 2}, 1, one)
	slices.Reverse(hints)
	isProof(t, question{q.f, one}, Report{true, 1, 0, 0, n + 2}, 1, one)
	// All of them are candidates.
	f := of(2, slices.Repeat([]clause{{-1, 2}}, lratext.MaxHints)...)
	s := add(lratext.MaxHints+1, clause{1, -2})
	for i := range lratext.MaxHints {
		s.Hints = append(s.Hints, -i-1)
	}
	c := opened(t, f)
	if kind, id, e := c.Do(s); kind != rat.RAT || id != 0 || e != api.OK {
		t.Error(kind, id, e)
	}
}

// Rules

// mark stands in the spare memory of slices.
const mark = 77

// spare returns a copy of a slice that has marks in its spare memory.
func spare[S ~[]E, E any](l S, mark E) S {
	return append(append(make(S, 0, len(l)+2), l...), mark, mark)[:len(l)]
}

// sealed returns a copy of a formula and of steps with spare memory, and a function that reports whether all of it is as it was.
func sealed(q question) (question, func() bool) {
	q.f.Clauses, q.l = spare(q.f.Clauses, clause{mark}), spare(q.l, del(mark))
	for i, c := range q.f.Clauses {
		q.f.Clauses[i] = spare(c, mark)
	}
	for i, s := range q.l {
		q.l[i].Lits, q.l[i].Hints = spare(s.Lits, mark), spare(s.Hints, mark)
	}
	was := spread(q)
	return q, func() bool {
		is := spread(q)
		return formula.Same(is.f, was.f) && lratext.Same(is.l, was.l)
	}
}

// spread returns a copy of a formula and of steps, of which the spare memory is no longer spare.
func spread(q question) question {
	c := question{of(q.f.Vars, slices.Clone(q.f.Clauses[:len(q.f.Clauses)+2])...), slices.Clone(q.l[:len(q.l)+2])}
	for i, x := range c.f.Clauses {
		c.f.Clauses[i] = slices.Clone(x[:cap(x)])
	}
	for i, s := range c.l {
		c.l[i].Lits, c.l[i].Hints = slices.Clone(s.Lits[:cap(s.Lits)]), slices.Clone(s.Hints[:cap(s.Hints)])
	}
	return c
}

// fill writes a number into all of a slice, and into its spare memory.
func fill[E any](l []E, n E) {
	l = l[:cap(l)]
	for i := range l {
		l[i] = n
	}
}

func TestArgumentsStay(t *testing.T) {
	for _, k := range append(drawn(18, 1500), question{example(), proving()}) {
		q, stays := sealed(k)
		Check(q.f, q.l)
		Text(q.f, "5 2 0 1 2 0\n")
		trimmed, _, _ := Trim(q.f, q.l)
		c := opened(t, q.f)
		for _, s := range q.l {
			c.Do(s)
		}
		l := c.Entries()
		if !stays() {
			t.Fatal(k)
		}
		// What is done with results is seen nowhere else.
		for _, s := range trimmed {
			fill(s.Lits, 9)
			fill(s.Hints, 9)
		}
		for _, x := range l {
			fill(x.Lits, 9)
		}
		fill(l, entry{})
		if !stays() {
			t.Fatal(k)
		}
	}
}

func TestArgumentsAreNotKept(t *testing.T) {
	for _, k := range drawn(19, 1500) {
		q, _ := sealed(k)
		c, m := opened(t, q.f), modelOf(k.f)
		for _, x := range q.f.Clauses {
			fill(x, 5)
		}
		fill(q.f.Clauses, clause{-5})
		shows(t, c, m)
		for i, s := range q.l {
			kind, id, e := c.Do(s)
			if o := (outcome{kind, id, e}); o != m.do(k.l[i]) {
				t.Fatal(k, i, o)
			}
			fill(s.Lits, 5)
			fill(s.Hints, 5)
			shows(t, c, m)
		}
	}
}

func TestResultsShareNoMemory(t *testing.T) {
	f := of(3, clause{1, 2}, clause{-1, 2}, clause{1, -2}, clause{-1, -2}, clause{3, 1}, clause{3, -1})
	c, m := opened(t, f), modelOf(f)
	doing(t, c, m, add(7, clause{2, 3}, 1, 2))
	l := c.Entries()
	for i := range l {
		fill(append(l[i].Lits, 8), 9)
		fill(l[i].Lits, 9)
		if i+1 < len(l) && !sameEntry(l[i+1], m.entries[i+1]) {
			t.Error(i, l[i+1])
		}
	}
	fill(append(l, entry{ID: 9}), entry{ID: 9, Lits: clause{9}})
	shows(t, c, m)
	doing(t, c, m, add(8, clause{2}, 1, 2))
	doing(t, c, m, add(9, clause{4}))
	doing(t, c, m, add(10, clause{-4, 1}))
	l = c.Entries()
	l[0].Lits[0] = 9
	doing(t, c, m, add(10, nil, 8, 3, 4))
	q := question{f, []step{add(7, clause{2, 3}, 1, 2), add(8, clause{-2, 3}, 3, 4), add(9, clause{3}, 7, 8), add(10, clause{2}, 1, 2), add(11, nil, 10, 3, 4)}}
	trimmed, _, _ := Trim(q.f, q.l)
	again, _, _ := Trim(q.f, q.l)
	want := lratext.Copy(trimmed)
	if len(trimmed) != 2 {
		t.Fatal(trimmed)
	}
	fill(append(trimmed[0].Hints, 8), 9)
	fill(append(trimmed[0].Lits, 8), 9)
	fill(trimmed[0].Lits, 9)
	fill(trimmed[0].Hints, 9)
	if !lratext.Same(trimmed[1:], want[1:]) || !lratext.Same(again, want) {
		t.Error(trimmed, again)
	}
}
