package rat

import (
	"math"
	"slices"
	"testing"

	"salvor/api"
	"salvor/clauses"
	"salvor/lits"
	"salvor/rup"
)

type clause = clauses.Clause

// draws is a row of numbers that look as if they were drawn, the same ones each time.
type draws uint64

func (d *draws) below(bound int) int {
	*d = *d*6364136223846793005 + 1442695040888963407
	return int(uint64(*d)>>33) % bound
}

// lit draws a literal of some variables.
func (d *draws) lit(vars int) lits.Lit {
	return lits.Lit(1+d.below(vars)) * lits.Lit(1-2*d.below(2))
}

// clause draws a clause; literals stand in it twice, or with their negations, now and then.
func (d *draws) clause(vars, most int) clause {
	var c clause
	for range d.below(most + 1) {
		c = append(c, d.lit(vars))
	}
	return c
}

// entries draws entries, of which few are empty, or unit by themselves; numbers are left out between their IDs.
func (d *draws) entries(vars, most int) []Entry {
	var l []Entry
	id := d.below(3)
	for range d.below(most + 1) {
		c := d.clause(vars, 3)
		if len(c) < 2 && d.below(4) > 0 {
			c = append(c, d.lit(vars), d.lit(vars))
		}
		id += 1 + d.below(2)
		l = append(l, Entry{id, c})
	}
	return l
}

// leaning draws entries many of which have the same literals, so that groups are found more often for the pivot 1.
func (d *draws) leaning(vars, most int) []Entry {
	l := d.entries(vars, most)
	for i, entry := range l {
		switch d.below(6) {
		case 0, 1, 2, 3:
			l[i].Lits = append(entry.Lits, lits.Lit(vars))
		case 4:
			l[i].Lits = append(entry.Lits, lits.Lit(vars), -1)
		}
	}
	return l
}

// hints draws IDs, nearly all of which are those of entries.
func (d *draws) hints(l []Entry, most int) []int {
	var hints []int
	for range d.below(most + 1) {
		if len(l) == 0 || d.below(30) == 0 {
			hints = append(hints, d.below(12)-2)
			continue
		}
		hints = append(hints, l[d.below(len(l))].ID)
	}
	return hints
}

// numbered returns entries with the IDs from 1 on.
func numbered(l ...clause) []Entry {
	var entries []Entry
	for i, c := range l {
		entries = append(entries, Entry{i + 1, c})
	}
	return entries
}

// many returns so many entries with the same clause.
func many(c clause, times int) []Entry { return numbered(slices.Repeat([]clause{c}, times)...) }

// example returns the chapter's entries.
func example() []Entry { return numbered(clause{1, 2}, clause{-1, 3}, clause{-2, -3}) }

// noIDs are numbers that are no IDs.
func noIDs() []int {
	return []int{0, -1, -7, MaxID + 1, -MaxID, -MaxID - 1, 1<<32 + 1, math.MaxInt, math.MinInt}
}

// noLits are numbers that are no literals.
func noLits() []lits.Lit {
	return []lits.Lit{0, lits.MaxVar + 1, -lits.MaxVar - 1, 1<<32 + 1, math.MaxInt, math.MinInt}
}

// noClauses are lists that are no clauses.
func noClauses() []clause {
	l := []clause{slices.Repeat(clause{1}, clauses.MaxLits+1), slices.Repeat(clause{1, -1}, clauses.MaxLits)}
	for _, n := range noLits() {
		l = append(l, clause{n}, clause{n, 1, -1}, clause{1, n, -1}, clause{1, -1, n}, clause{n, n})
	}
	return l
}

// noEntries are lists of entries that are not right.
func noEntries() [][]Entry {
	l := [][]Entry{
		{{1, nil}, {1, nil}}, {{2, clause{1}}, {1, clause{2}}}, {{1, nil}, {3, nil}, {2, nil}}, {{1, nil}, {2, nil}, {4, nil}, {4, clause{5}}},
		{{MaxID, nil}, {MaxID, nil}}, {{MaxID, nil}, {MaxID + 1, nil}}, {{-1, nil}, {1, nil}}, {{-1, nil}, {0, nil}, {1, nil}},
	}
	for _, id := range noIDs() {
		l = append(l, []Entry{{id, nil}}, []Entry{{1, clause{1}}, {id, clause{1}}}, []Entry{{id, clause{1}}, {3, nil}})
	}
	for _, c := range noClauses() {
		l = append(l, []Entry{{1, c}}, []Entry{{1, clause{1}}, {2, c}}, []Entry{{1, c}, {2, nil}}, []Entry{{1, clause{1}}, {2, c}, {3, nil}})
	}
	return l
}

// isAlways reports whether a clause holds always.
func isAlways(c clause) bool {
	return slices.ContainsFunc(c, func(x lits.Lit) bool { return slices.Contains(c, -x) })
}

// negated returns the negations of literals.
func negated(c clause) clause {
	var l clause
	for _, x := range c {
		l = append(l, -x)
	}
	return l
}

// state is what is assigned, in the tests' model, which goes by what the words say.
type state []lits.Lit

func (a state) with(x lits.Lit) state { return append(slices.Clone(a), x) }

// unassigned returns the literals of a clause that have no value, each once, and whether one of them is assigned.
func (a state) unassigned(c clause) ([]lits.Lit, bool) {
	var left []lits.Lit
	for _, x := range c {
		if slices.Contains(a, x) {
			return nil, true
		}
		if !slices.Contains(a, -x) && !slices.Contains(left, x) {
			left = append(left, x)
		}
	}
	return left, false
}

// outcome is what Check says.
type outcome struct {
	kind uint8
	id   int
	e    api.Errno
}

// following returns what is assigned when hints were followed, whether there was a conflict, and what is wrong.
func following(l []Entry, a state, hints []int) (state, bool, outcome) {
	for _, id := range hints {
		i := slices.IndexFunc(l, func(entry Entry) bool { return entry.ID == id })
		if i < 0 {
			return nil, false, outcome{0, id, 91}
		}
		left, holds := a.unassigned(l[i].Lits)
		switch {
		case holds || len(left) > 1:
			return nil, false, outcome{0, id, 81}
		case len(left) == 0:
			return nil, true, outcome{}
		}
		a = a.with(left[0])
	}
	return a, false, outcome{}
}

// candidatesOf returns the candidates of a pivot.
func candidatesOf(l []Entry, pivot lits.Lit) []Entry {
	return slices.DeleteFunc(slices.Clone(l), func(entry Entry) bool {
		return isAlways(entry.Lits) || !slices.Contains(entry.Lits, -pivot)
	})
}

// misplaced returns the ID by which groups are not those of some candidates, or 0.
func misplaced(l []Entry, groups []Group) (int, bool) {
	has := func(id int) func(Group) bool { return func(g Group) bool { return g.ID == id } }
	for _, entry := range l {
		if !slices.ContainsFunc(groups, has(entry.ID)) {
			return entry.ID, true
		}
	}
	for i, g := range groups {
		none := !slices.ContainsFunc(l, func(entry Entry) bool { return entry.ID == g.ID })
		twice := slices.ContainsFunc(groups[:i], has(g.ID))
		late := slices.ContainsFunc(groups[:i], func(h Group) bool { return h.ID > g.ID })
		if none || twice || late {
			return g.ID, true
		}
	}
	return 0, false
}

// checked returns what Check has to say of a step.
func checked(l []Entry, s Step) outcome {
	if isAlways(s.Lits) {
		return outcome{kind: 1}
	}
	a, conflict, wrong := following(l, state(negated(s.Lits)), s.Hints)
	switch {
	case wrong != outcome{}:
		return wrong
	case conflict:
		return outcome{kind: 1}
	case len(s.Lits) == 0:
		return outcome{0, 0, 82}
	}
	pivot := s.Lits[0]
	l, all := candidatesOf(l, pivot), l
	if id, ok := misplaced(l, s.Groups); ok {
		return outcome{0, id, 92}
	}
	for i, entry := range l {
		others := slices.DeleteFunc(slices.Clone(entry.Lits), func(x lits.Lit) bool { return x == -pivot })
		left, holds := a.unassigned(others)
		if holds {
			continue
		}
		_, conflict, wrong := following(all, append(slices.Clone(a), negated(left)...), s.Groups[i].Hints)
		switch {
		case wrong != outcome{}:
			return wrong
		case !conflict:
			return outcome{0, entry.ID, 93}
		}
	}
	return outcome{kind: 2}
}

// found returns the hints that layer 8 finds for a clause.
func found(l []Entry, c clause) ([]int, bool) {
	var all []clause
	for _, entry := range l {
		all = append(all, entry.Lits)
	}
	indexes, ok, e := rup.Find(c, all)
	var hints []int
	for _, i := range indexes {
		hints = append(hints, l[i].ID)
	}
	return hints, ok && e == api.OK
}

// searched returns what Search has to find.
func searched(l []Entry, c clause) (Step, uint8, bool) {
	if hints, ok := found(l, c); ok {
		return Step{c, hints, nil}, 1, true
	}
	if len(c) == 0 || len(l) > rup.MaxHints {
		return Step{}, 0, false
	}
	s := Step{Lits: c}
	a := state(negated(c))
taking:
	for {
		for _, entry := range l {
			if left, holds := a.unassigned(entry.Lits); !holds && len(left) == 1 {
				s.Hints = append(s.Hints, entry.ID)
				a = a.with(left[0])
				continue taking
			}
		}
		break
	}
	for _, entry := range candidatesOf(l, c[0]) {
		others := slices.DeleteFunc(slices.Clone(entry.Lits), func(x lits.Lit) bool { return x == -c[0] })
		left, holds := a.unassigned(others)
		g := Group{ID: entry.ID}
		if !holds {
			hints, ok := found(l, append(negated(clause(a)), left...))
			if !ok {
				return Step{}, 0, false
			}
			g.Hints = hints
		}
		s.Groups = append(s.Groups, g)
	}
	return s, 2, true
}

func sameGroup(a, b Group) bool { return a.ID == b.ID && slices.Equal(a.Hints, b.Hints) }

func sameStep(a, b Step) bool {
	return slices.Equal(a.Lits, b.Lits) && slices.Equal(a.Hints, b.Hints) && slices.EqualFunc(a.Groups, b.Groups, sameGroup)
}

func sameEntry(a, b Entry) bool { return a.ID == b.ID && slices.Equal(a.Lits, b.Lits) }

// copied returns a copy of a step that shares no memory with it.
func copied(s Step) Step {
	c := Step{slices.Clone(s.Lits), slices.Clone(s.Hints), slices.Clone(s.Groups)}
	for i, g := range c.Groups {
		c.Groups[i].Hints = slices.Clone(g.Hints)
	}
	return c
}

// question is a step among entries.
type question struct {
	l []Entry
	s Step
}

// drawn are steps that are drawn, many of which are right, or nearly.
func drawn() []question {
	var all []question
	d := draws(9)
	for range 4000 {
		vars := 2 + d.below(4)
		l := d.entries(vars, 2+2*vars)
		if d.below(3) == 0 {
			l = d.leaning(vars, 3*vars)
		}
		c := d.clause(vars+1, 3)
		s, _, ok := searched(l, c)
		if !ok {
			s = Step{Lits: c, Hints: d.hints(l, 2)}
			if len(c) > 0 {
				for _, entry := range candidatesOf(l, c[0]) {
					s.Groups = append(s.Groups, Group{entry.ID, d.hints(l, 2)})
				}
			}
		}
		all = append(all, question{l, s})
	}
	return all
}

// near returns a step that differs a little.
func (d *draws) near(q question) Step {
	s := copied(q.s)
	other := append(d.hints(q.l, 1), d.below(9)-1)[0]
	if len(s.Groups) > 0 && d.below(2) == 0 {
		i := d.below(len(s.Groups))
		switch g := s.Groups[i]; d.below(6) {
		case 0:
			s.Groups = slices.Delete(s.Groups, i, i+1)
		case 1:
			s.Groups = slices.Insert(s.Groups, d.below(len(s.Groups)+1), Group{g.ID, d.hints(q.l, 1)})
		case 2:
			s.Groups = slices.Insert(s.Groups, d.below(len(s.Groups)+1), Group{other, nil})
		case 3:
			j := d.below(len(s.Groups))
			s.Groups[i], s.Groups[j] = s.Groups[j], g
		case 4:
			s.Groups[i].ID = other
		default:
			s.Groups[i].Hints = d.changed(g.Hints, other)
		}
		return s
	}
	s.Hints = d.changed(s.Hints, other)
	return s
}

// changed returns hints of which one is gone, is another one, or is new.
func (d *draws) changed(hints []int, other int) []int {
	if len(hints) == 0 || d.below(3) == 0 {
		return slices.Insert(hints, d.below(len(hints)+1), other)
	}
	i := d.below(len(hints))
	if d.below(2) == 0 {
		return slices.Delete(hints, i, i+1)
	}
	hints[i] = other
	return hints
}

// steps are those that are drawn, and some near each of them.
func steps() []question {
	d := draws(99)
	all := drawn()
	for _, q := range drawn() {
		for range 4 {
			s := d.near(q)
			all = append(all, question{q.l, s})
			if d.below(3) == 0 {
				all = append(all, question{q.l, d.near(question{q.l, s})})
			}
		}
	}
	return all
}

// said returns what Check says.
func said(l []Entry, s Step) outcome {
	kind, id, e := Check(l, s)
	return outcome{kind, id, e}
}

func TestConstants(t *testing.T) {
	if RUP != 1 || RAT != 2 || MaxEntries != 1048576 || MaxID != 1073741824 {
		t.Error(RUP, RAT, MaxEntries, MaxID)
	}
	if ErrEntries != 90 || ErrID != 91 || ErrGroup != 92 || ErrCheck != 93 {
		t.Error(ErrEntries, ErrID, ErrGroup, ErrCheck)
	}
}

func TestExamples(t *testing.T) {
	for i, k := range []struct {
		s    Step
		want outcome
	}{
		{Step{Lits: clause{4, 1}}, outcome{kind: RAT}},
		{Step{Lits: clause{1, 3}, Hints: []int{1, 3}}, outcome{0, 3, rup.ErrHint}},
		{Step{Lits: clause{1, 3}, Hints: []int{1}, Groups: []Group{{ID: 2}}}, outcome{0, 2, ErrCheck}},
		{Step{Lits: clause{-3, 1}, Groups: []Group{{ID: 2}}}, outcome{kind: RAT}},
		{Step{Lits: clause{-3, 1}}, outcome{0, 2, ErrGroup}},
	} {
		if o := said(example(), k.s); o != k.want {
			t.Error(i, o)
		}
	}
	hints, groups, e := Split([]int{5, -7, 2, 3, -8})
	if !sameStep(Step{Hints: hints, Groups: groups}, Step{Hints: []int{5}, Groups: []Group{{7, []int{2, 3}}, {8, nil}}}) || e != api.OK {
		t.Error(hints, groups, e)
	}
	if l, e := Repair(clause{-3, 1}, []lits.Lit{3, -1}); !slices.Equal(l, []lits.Lit{-3, -1}) || e != api.OK {
		t.Error(l, e)
	}
}

// P9.1

func TestRight(t *testing.T) {
	longest := slices.Repeat(clause{lits.MaxVar, -lits.MaxVar}, clauses.MaxLits/2)
	for i, l := range [][]Entry{
		nil, {}, {{1, nil}}, {{MaxID, clause{}}}, {{1, clause{1}}, {MaxID, longest}}, {{3, clause{1, -1}}, {4, clause{2, 2}}, {9, nil}}, example(),
		{{MaxID - 1, clause{1}}, {MaxID, clause{1}}},
	} {
		if !Right(l) {
			t.Error(i)
		}
	}
	for i, l := range noEntries() {
		if Right(l) {
			t.Error(i)
		}
	}
}

func TestRightOfManyEntries(t *testing.T) {
	l := many(clause{1}, MaxEntries+1)
	if !Right(l[:MaxEntries]) || !Right(l[1:]) || Right(l) {
		t.Error("many")
	}
	l[MaxEntries-1].Lits = clause{0}
	if Right(l[:MaxEntries]) {
		t.Error("the last one is wrong")
	}
}

func TestFind(t *testing.T) {
	l := []Entry{{2, nil}, {3, clause{1}}, {7, clause{1, -1}}, {8, nil}, {MaxID, nil}}
	where := map[int]int{2: 0, 3: 1, 7: 2, 8: 3, MaxID: 4}
	for n := range len(l) + 1 {
		for _, id := range append(noIDs(), 1, 2, 3, 4, 5, 6, 7, 8, 9, 10, MaxID-1, MaxID) {
			want, is := where[id]
			if want >= n || !is {
				want, is = 0, false
			}
			if i, ok, e := Find(l[:n], id); i != want || ok != is || e != api.OK {
				t.Error(n, id, i, ok, e)
			}
		}
	}
}

func TestFindLikeTheModel(t *testing.T) {
	d := draws(91)
	for range 500 {
		l := d.entries(3, 20)
		for id := -2; id < 45; id++ {
			want := slices.IndexFunc(l, func(entry Entry) bool { return entry.ID == id })
			if i, ok, e := Find(l, id); ok != (want >= 0) || i != max(want, 0) || e != api.OK {
				t.Fatal(l, id, i, ok, e)
			}
		}
	}
	l := many(nil, MaxEntries)
	for i := range l {
		l[i].ID *= MaxID / MaxEntries
	}
	for _, i := range []int{0, 1, MaxEntries / 2, MaxEntries - 2, MaxEntries - 1} {
		if at, ok, e := Find(l, l[i].ID); at != i || !ok || e != api.OK {
			t.Error(i, at, ok, e)
		}
		if at, ok, e := Find(l, l[i].ID-1); at != 0 || ok || e != api.OK {
			t.Error(i, at, ok, e)
		}
	}
}

func TestCandidates(t *testing.T) {
	l := []Entry{
		{2, clause{1, 2}}, {3, clause{-1}}, {5, clause{-1, 1}}, {6, clause{2, -1, -2}}, {7, clause{3, -1, -1}}, {8, nil},
		{9, clause{-2, 2, -1, 1}}, {10, clause{-1, -2, -3}}, {MaxID, clause{4, 5, -lits.MaxVar, 6, -1}},
	}
	for i, k := range []struct {
		pivot lits.Lit
		ids   []int
	}{
		{1, []int{3, 7, 10, MaxID}}, {-1, []int{2}}, {-2, []int{2}}, {2, []int{10}}, {3, []int{10}}, {-3, []int{7}}, {4, nil}, {lits.MaxVar, []int{MaxID}},
		{-lits.MaxVar, nil}, {-6, []int{MaxID}},
	} {
		if ids, e := Candidates(l, k.pivot); !slices.Equal(ids, k.ids) || e != api.OK {
			t.Error(i, ids, e)
		}
	}
	for _, l := range [][]Entry{nil, {}} {
		if ids, e := Candidates(l, 1); len(ids) != 0 || e != api.OK {
			t.Error(ids, e)
		}
	}
	if ids, e := Candidates(many(clause{-5}, MaxEntries), 5); len(ids) != MaxEntries || ids[0] != 1 || ids[MaxEntries-1] != MaxEntries || e != api.OK {
		t.Error(len(ids), e)
	}
}

func TestCandidatesLikeTheModel(t *testing.T) {
	d := draws(92)
	for range 2000 {
		l := d.entries(3, 8)
		for _, pivot := range []lits.Lit{1, -1, 2, -2, 3, -3, 4} {
			var want []int
			for _, entry := range candidatesOf(l, pivot) {
				want = append(want, entry.ID)
			}
			if ids, e := Candidates(l, pivot); !slices.Equal(ids, want) || e != api.OK {
				t.Fatal(l, pivot, ids, e)
			}
		}
	}
}

func TestNoPivots(t *testing.T) {
	for _, n := range noLits() {
		for _, l := range [][]Entry{nil, example()} {
			if ids, e := Candidates(l, n); len(ids) != 0 || e != lits.ErrLit {
				t.Error(n, ids, e)
			}
		}
	}
}

func TestNoEntries(t *testing.T) {
	lists := append(noEntries(), many(nil, MaxEntries+1))
	for i, l := range lists {
		for _, c := range []clause{{1, -1}, nil, {1}, {0}, slices.Repeat(clause{1}, clauses.MaxLits+1)} {
			if o := said(l, Step{Lits: c, Hints: []int{0}, Groups: []Group{{}}}); o != (outcome{0, 0, ErrEntries}) {
				t.Error(i, o)
			}
			if s, kind, ok, e := Search(l, c); !sameStep(s, Step{}) || kind != 0 || ok || e != ErrEntries {
				t.Error(i, s, kind, ok, e)
			}
		}
		for _, x := range append(noLits(), 1, -2) {
			if ids, e := Candidates(l, x); len(ids) != 0 || e != ErrEntries {
				t.Error(i, ids, e)
			}
		}
		for _, id := range []int{0, 1, 2, math.MinInt} {
			if at, ok, e := Find(l, id); at != 0 || ok || e != ErrEntries {
				t.Error(i, at, ok, e)
			}
		}
	}
}

// P9.2

func TestSplit(t *testing.T) {
	for i, k := range []struct {
		text   []int
		hints  []int
		groups []Group
	}{
		{nil, nil, nil}, {[]int{}, nil, nil}, {[]int{5}, []int{5}, nil}, {[]int{5, 5, 1}, []int{5, 5, 1}, nil},
		{[]int{-5}, nil, []Group{{5, nil}}}, {[]int{-5, 1}, nil, []Group{{5, []int{1}}}}, {[]int{-5, -5, -4}, nil, []Group{{5, nil}, {5, nil}, {4, nil}}},
		{[]int{3, -1, -2, 7, 7, -3}, []int{3}, []Group{{1, nil}, {2, []int{7, 7}}, {3, nil}}},
		{[]int{-1, 4, 3, -2, 9}, nil, []Group{{1, []int{4, 3}}, {2, []int{9}}}},
		{[]int{MaxID, -MaxID, MaxID, -1}, []int{MaxID}, []Group{{MaxID, []int{MaxID}}, {1, nil}}},
	} {
		hints, groups, e := Split(k.text)
		if !sameStep(Step{Hints: hints, Groups: groups}, Step{Hints: k.hints, Groups: k.groups}) || e != api.OK {
			t.Error(i, hints, groups, e)
		}
		text, e := Join(k.hints, k.groups)
		if !slices.Equal(text, k.text) || e != api.OK {
			t.Error(i, text, e)
		}
	}
}

func TestSplitOfWrongNumbers(t *testing.T) {
	for _, n := range []int{0, MaxID + 1, -MaxID - 1, 1<<32 + 1, -1<<32 - 1, math.MaxInt, math.MinInt, -math.MaxInt} {
		for _, text := range [][]int{{n}, {n, 1}, {1, n}, {-1, n}, {-1, 2, n}, {5, -2, 7, n, -3, 2}, {n, n}, {MaxID, n, -MaxID}} {
			if hints, groups, e := Split(text); len(hints) != 0 || len(groups) != 0 || e != ErrID {
				t.Error(text, hints, groups, e)
			}
		}
	}
}

func TestJoinOfWrongNumbers(t *testing.T) {
	for _, n := range noIDs() {
		for _, s := range []Step{
			{Hints: []int{n}}, {Hints: []int{1, n}}, {Hints: []int{n, 1}}, {Groups: []Group{{ID: n}}}, {Hints: []int{1}, Groups: []Group{{n, []int{1}}}},
			{Groups: []Group{{1, []int{n}}}}, {Groups: []Group{{1, []int{2, n}}}}, {Groups: []Group{{1, nil}, {n, nil}}}, {Hints: []int{n}, Groups: []Group{{ID: 1}}},
			{Groups: []Group{{1, nil}, {2, []int{3, n, 4}}, {3, nil}}}, {Groups: []Group{{n, nil}, {1, nil}}}, {Groups: []Group{{n, []int{n}}}},
		} {
			if text, e := Join(s.Hints, s.Groups); len(text) != 0 || e != ErrID {
				t.Error(s, text, e)
			}
		}
	}
}

func TestWhatIsSplitIsJoined(t *testing.T) {
	numbers := []int{-3, -2, -1, 1, 2, 3}
	texts := [][]int{nil}
	for range 5 {
		for _, text := range texts {
			for _, n := range numbers {
				if len(text) == len(texts[len(texts)-1]) {
					texts = append(texts, append(slices.Clone(text), n))
				}
			}
		}
	}
	for _, text := range texts {
		hints, groups, e := Split(text)
		again, f := Join(hints, groups)
		if !slices.Equal(again, text) || e+f != api.OK {
			t.Fatal(text, hints, groups, again, e, f)
		}
		for _, n := range append(slices.Clone(hints), len(text)+1) {
			if n < 1 {
				t.Fatal(text, hints)
			}
		}
		for _, g := range groups {
			if g.ID < 1 || slices.ContainsFunc(g.Hints, func(n int) bool { return n < 1 }) {
				t.Fatal(text, groups)
			}
		}
	}
}

func TestLongTexts(t *testing.T) {
	var text []int
	d := draws(93)
	for range 1 << 18 {
		text = append(text, (1+d.below(1000))*(1-2*(d.below(9)/8)))
	}
	hints, groups, e := Split(text)
	again, f := Join(hints, groups)
	if !slices.Equal(again, text) || len(groups) < 20000 || e+f != api.OK {
		t.Error(len(hints), len(groups), e, f)
	}
}

// P9.3

func TestCheck(t *testing.T) {
	l := []Entry{
		{2, clause{1, 2}}, {3, clause{-1, 3}}, {5, clause{-2, -3}}, {7, clause{4, -4, 1}}, {8, clause{-1, -1, 5}},
		{11, clause{-6}}, {12, clause{6, 7}}, {13, nil}, {MaxID, clause{8, 9}},
	}
	for i, k := range []struct {
		s    Step
		want outcome
	}{
		// Without hints and groups.
		{Step{}, outcome{0, 0, rup.ErrEnd}}, {Step{Groups: []Group{{ID: 3}}}, outcome{0, 0, rup.ErrEnd}}, {Step{Lits: clause{10}}, outcome{kind: RAT}},
		{Step{Lits: clause{6}}, outcome{0, 11, ErrGroup}}, {Step{Lits: clause{-8}}, outcome{0, MaxID, ErrGroup}},
		// A clause that holds always.
		{Step{Lits: clause{1, 2, -1}}, outcome{kind: RUP}}, {Step{clause{1, -1}, []int{0, 99}, []Group{{0, nil}, {0, []int{99}}}}, outcome{kind: RUP}},
		{Step{clause{10, 10, -10}, []int{2}, nil}, outcome{kind: RUP}},
		// Of RUP; what is behind the conflict does not matter.
		{Step{nil, []int{13}, nil}, outcome{kind: RUP}}, {Step{clause{3}, []int{3, 2, 13}, nil}, outcome{kind: RUP}},
		{Step{clause{1}, []int{2, 13, 0, -3, 2}, []Group{{0, []int{0}}, {-5, nil}}}, outcome{kind: RUP}}, {Step{clause{-6, 9}, []int{11}, nil}, outcome{kind: RUP}},
		{Step{clause{7, 7}, []int{11, 12}, nil}, outcome{kind: RUP}}, {Step{nil, []int{11, 12, 13}, nil}, outcome{kind: RUP}},
		{Step{clause{8, 9}, []int{11, MaxID}, nil}, outcome{kind: RUP}}, {Step{nil, []int{13, 13}, nil}, outcome{kind: RUP}},
		// Hints that are wrong.
		{Step{nil, []int{0}, nil}, outcome{0, 0, ErrID}}, {Step{nil, []int{1}, nil}, outcome{0, 1, ErrID}}, {Step{nil, []int{4, 13}, nil}, outcome{0, 4, ErrID}},
		{Step{nil, []int{11, 14, 2}, nil}, outcome{0, 14, ErrID}}, {Step{nil, []int{11, -11}, nil}, outcome{0, -11, ErrID}},
		{Step{nil, []int{MaxID - 1}, nil}, outcome{0, MaxID - 1, ErrID}}, {Step{nil, []int{MaxID + 1}, nil}, outcome{0, MaxID + 1, ErrID}},
		{Step{nil, []int{math.MinInt}, nil}, outcome{0, math.MinInt, ErrID}}, {Step{clause{1}, []int{math.MaxInt}, nil}, outcome{0, math.MaxInt, ErrID}},
		{Step{nil, []int{2, 0}, nil}, outcome{0, 2, rup.ErrHint}}, {Step{nil, []int{0, 2}, nil}, outcome{0, 0, ErrID}},
		{Step{clause{-1}, []int{2}, nil}, outcome{0, 2, rup.ErrHint}}, {Step{nil, []int{11, 11}, nil}, outcome{0, 11, rup.ErrHint}},
		{Step{clause{1}, []int{7, 13}, nil}, outcome{0, 7, rup.ErrHint}}, {Step{clause{4, 1}, []int{7}, nil}, outcome{0, 7, rup.ErrHint}},
		{Step{nil, []int{MaxID, 13}, nil}, outcome{0, MaxID, rup.ErrHint}}, {Step{clause{1}, []int{11, 2, 3}, []Group{{ID: 99}}}, outcome{0, 3, rup.ErrHint}},
		{Step{nil, []int{11}, nil}, outcome{0, 0, rup.ErrEnd}}, {Step{nil, []int{11, 12}, []Group{{ID: 0}}}, outcome{0, 0, rup.ErrEnd}},
		// Groups that are not those of the candidates 3 and 8.
		{Step{clause{1}, nil, nil}, outcome{0, 3, ErrGroup}}, {Step{clause{1}, nil, []Group{{8, nil}}}, outcome{0, 3, ErrGroup}},
		{Step{clause{1}, nil, []Group{{3, nil}}}, outcome{0, 8, ErrGroup}}, {Step{clause{1}, nil, []Group{{2, nil}, {3, nil}}}, outcome{0, 8, ErrGroup}},
		{Step{clause{1}, nil, []Group{{8, nil}, {3, nil}}}, outcome{0, 3, ErrGroup}}, {Step{clause{1}, nil, []Group{{3, nil}, {3, nil}}}, outcome{0, 8, ErrGroup}},
		{Step{clause{1}, nil, []Group{{3, nil}, {3, nil}, {8, nil}}}, outcome{0, 3, ErrGroup}}, {Step{clause{1}, nil, []Group{{3, nil}, {8, nil}, {8, nil}}}, outcome{0, 8, ErrGroup}},
		{Step{clause{1}, nil, []Group{{3, nil}, {8, nil}, {3, nil}}}, outcome{0, 3, ErrGroup}}, {Step{clause{1}, nil, []Group{{3, nil}, {5, nil}, {8, nil}}}, outcome{0, 5, ErrGroup}},
		{Step{clause{1}, nil, []Group{{3, nil}, {8, nil}, {9, nil}}}, outcome{0, 9, ErrGroup}}, {Step{clause{1}, nil, []Group{{0, nil}, {3, nil}, {8, nil}}}, outcome{0, 0, ErrGroup}},
		{Step{clause{1}, nil, []Group{{-3, nil}, {8, nil}, {3, nil}}}, outcome{0, -3, ErrGroup}}, {Step{clause{1}, nil, []Group{{8, nil}, {99, nil}, {3, nil}}}, outcome{0, 99, ErrGroup}},
		{Step{clause{1}, nil, []Group{{3, nil}, {math.MaxInt, nil}, {8, nil}}}, outcome{0, math.MaxInt, ErrGroup}}, {Step{clause{1}, nil, []Group{{math.MinInt, nil}, {3, nil}, {8, nil}}}, outcome{0, math.MinInt, ErrGroup}},
		{Step{clause{-4}, nil, []Group{{7, nil}}}, outcome{0, 7, ErrGroup}}, {Step{clause{10}, nil, []Group{{2, nil}}}, outcome{0, 2, ErrGroup}},
		// Of RAT: the literal 3 of entry 3 is assigned, then not.
		{Step{clause{1, -3}, nil, []Group{{3, nil}, {8, nil}}}, outcome{0, 8, ErrCheck}}, {Step{clause{1, -3, -5}, nil, []Group{{3, nil}, {8, nil}}}, outcome{kind: RAT}},
		{Step{clause{1, -3, -5}, nil, []Group{{3, []int{0, 99}}, {8, []int{2, -1}}}}, outcome{kind: RAT}}, {Step{clause{1, -5}, nil, []Group{{3, nil}, {8, nil}}}, outcome{0, 3, ErrCheck}},
		{Step{clause{1, -5}, nil, []Group{{3, []int{2, 5}}, {8, nil}}}, outcome{0, 5, rup.ErrHint}}, {Step{clause{1, -5}, nil, []Group{{3, []int{2}}, {8, nil}}}, outcome{0, 3, ErrCheck}},
		{Step{clause{1, -5}, nil, []Group{{3, []int{2, 13}}, {8, nil}}}, outcome{kind: RAT}}, {Step{clause{1, -5}, nil, []Group{{3, []int{13, 0, 2}}, {8, nil}}}, outcome{kind: RAT}},
		{Step{clause{1, -5}, nil, []Group{{3, []int{2, 6}}, {8, nil}}}, outcome{0, 6, ErrID}}, {Step{clause{1, -5}, nil, []Group{{3, []int{2, 2}}, {8, nil}}}, outcome{0, 2, rup.ErrHint}},
		{Step{clause{1, 1, -3, 1}, nil, []Group{{3, nil}, {8, []int{13}}}}, outcome{kind: RAT}}, {Step{clause{1, 5, -3}, nil, []Group{{3, nil}, {8, []int{12}}}}, outcome{0, 12, rup.ErrHint}},
		// What one group assigned is gone in the next one; what the hints assigned is not.
		{Step{clause{1}, []int{11}, []Group{{3, []int{2, 13}}, {8, []int{2, 12}}}}, outcome{0, 8, ErrCheck}}, {Step{clause{1}, []int{11, 12}, []Group{{3, []int{2, 13}}, {8, []int{2, 12}}}}, outcome{0, 12, rup.ErrHint}},
		{Step{clause{1}, []int{2}, []Group{{3, []int{13}}, {8, []int{5}}}}, outcome{0, 8, ErrCheck}}, {Step{clause{1}, []int{2}, []Group{{3, []int{13}}, {8, []int{2}}}}, outcome{0, 2, rup.ErrHint}},
		// The negation of the pivot alone.
		{Step{clause{6, 7}, nil, []Group{{11, nil}}}, outcome{0, 11, ErrCheck}}, {Step{clause{6, 8}, nil, []Group{{11, []int{MaxID, 13}}}}, outcome{kind: RAT}},
		{Step{clause{6, 7}, []int{12}, []Group{{11, nil}}}, outcome{kind: RUP}},
		// Of several things the first one.
		{Step{clause{6}, []int{2, 99}, []Group{{99, nil}}}, outcome{0, 2, rup.ErrHint}}, {Step{clause{6}, []int{99, 2}, []Group{{99, nil}}}, outcome{0, 99, ErrID}},
		{Step{clause{1}, nil, []Group{{3, []int{99}}, {8, nil}, {99, nil}}}, outcome{0, 99, ErrGroup}}, {Step{clause{1}, nil, []Group{{3, nil}, {8, []int{99}}}}, outcome{0, 3, ErrCheck}},
		{Step{clause{1}, nil, []Group{{3, []int{99, 7}}, {8, nil}}}, outcome{0, 99, ErrID}}, {Step{clause{1}, nil, []Group{{3, []int{7, 99}}, {8, []int{99}}}}, outcome{0, 7, rup.ErrHint}},
	} {
		if o := said(l, k.s); o != k.want {
			t.Error(i, k.s, o, k.want)
		}
	}
}

func TestCheckWithoutEntries(t *testing.T) {
	for _, l := range [][]Entry{nil, {}} {
		for i, k := range []struct {
			s    Step
			want outcome
		}{
			{Step{}, outcome{0, 0, rup.ErrEnd}}, {Step{Lits: clause{1}}, outcome{kind: RAT}}, {Step{Lits: clause{1, -1}}, outcome{kind: RUP}},
			{Step{clause{1}, []int{1}, nil}, outcome{0, 1, ErrID}}, {Step{clause{1}, nil, []Group{{1, nil}}}, outcome{0, 1, ErrGroup}},
			{Step{clause{}, []int{}, []Group{}}, outcome{0, 0, rup.ErrEnd}}, {Step{clause{-lits.MaxVar}, []int{}, []Group{}}, outcome{kind: RAT}},
		} {
			if o := said(l, k.s); o != k.want {
				t.Error(i, o)
			}
		}
	}
}

func TestNoClauses(t *testing.T) {
	for _, c := range noClauses() {
		for _, l := range [][]Entry{nil, example(), {{1, nil}}} {
			if o := said(l, Step{c, []int{0}, []Group{{0, nil}}}); o != (outcome{0, 0, clauses.ErrClause}) {
				t.Error(c[0], o)
			}
			if s, kind, ok, e := Search(l, c); !sameStep(s, Step{}) || kind != 0 || ok || e != clauses.ErrClause {
				t.Error(c[0], s, kind, ok, e)
			}
		}
	}
}

// shorts are clauses of few literals.
func shorts() []clause {
	return []clause{nil, {1}, {-1}, {2}, {1, 2}, {-1, 2}, {2, -1}, {-1, -2}, {-1, 1}, {-1, 2, -1}, {-2, 1}}
}

func TestCheckOfAllShortSteps(t *testing.T) {
	seen := map[outcome]int{}
	var hints [][]int
	for _, a := range []int{2, 5, 4} {
		hints = append(hints, []int{a}, []int{a, 5}, []int{a, 2})
	}
	hints = append(hints, nil)
	var groups [][]Group
	for _, few := range [][]int{nil, {2}, {5}, {5, 2}, {4}} {
		groups = append(groups, []Group{{2, few}}, []Group{{5, few}}, []Group{{2, few}, {5, few}}, []Group{{2, nil}, {5, few}}, []Group{{5, nil}, {2, few}}, []Group{{4, few}})
	}
	groups = append(groups, nil)
	for _, c := range shorts() {
		for _, a := range shorts() {
			for _, b := range shorts() {
				l := []Entry{{2, a}, {5, b}}
				_, _, ok, _ := Search(l, c)
				for _, h := range hints {
					for _, g := range groups {
						s := Step{c, h, g}
						o := said(l, s)
						if o != checked(l, s) {
							t.Fatal(l, s, o, checked(l, s))
						}
						if o.kind != 0 && !ok {
							t.Fatal(l, s, "is not found")
						}
						seen[o]++
					}
				}
			}
		}
	}
	if len(seen) < 11 {
		t.Error(seen)
	}
}

func TestCheckLikeTheModel(t *testing.T) {
	seen := map[outcome]int{}
	for _, q := range steps() {
		o := said(q.l, q.s)
		if o != checked(q.l, q.s) {
			t.Fatal(q, o, checked(q.l, q.s))
		}
		o.id = 0
		seen[o]++
	}
	for _, o := range []outcome{{kind: RUP}, {kind: RAT}, {e: ErrID}, {e: rup.ErrHint}, {e: rup.ErrEnd}, {e: ErrGroup}, {e: ErrCheck}} {
		if seen[o] < 150 {
			t.Error(o, seen[o])
		}
	}
}

// chain returns entries, each of which is unit when those in front of it were followed.
func chain(length int) []Entry {
	l := numbered(clause{1})
	for v := 1; v < length; v++ {
		l = append(l, Entry{v + 1, clause{lits.Lit(-v), lits.Lit(v + 1)}})
	}
	return l
}

// ids returns the IDs of entries.
func ids(l []Entry) []int {
	var all []int
	for _, entry := range l {
		all = append(all, entry.ID)
	}
	return all
}

func TestCheckOfManyHints(t *testing.T) {
	l := chain(MaxEntries)
	hints := ids(l)
	if o := said(l, Step{clause{MaxEntries}, hints, nil}); o != (outcome{kind: RUP}) {
		t.Error(o)
	}
	// More than layer 8 would follow at a time.
	const few = 3 * rup.MaxHints
	l, hints = l[:few], hints[:few]
	if o := said(l, Step{Hints: hints}); o != (outcome{0, 0, rup.ErrEnd}) {
		t.Error(o)
	}
	if o := said(l, Step{clause{-2}, hints[1:], nil}); o != (outcome{0, 2, rup.ErrHint}) {
		t.Error(o)
	}
	if o := said(l, Step{Hints: append(hints, 1)}); o != (outcome{0, 1, rup.ErrHint}) {
		t.Error(o)
	}
	l[few-1].Lits = clause{1 - few, -5}
	if o := said(l, Step{Hints: append(hints, 0)}); o != (outcome{kind: RUP}) {
		t.Error(o)
	}
}

func TestCheckOfManyGroups(t *testing.T) {
	const length = 1 << 18
	longest := slices.Repeat(clause{-5, 4}, clauses.MaxLits/2)
	l := append(numbered(clause{3, 4}, clause{-3, 4}), make([]Entry, length-2)...)
	var groups []Group
	for i := 2; i < length; i++ {
		l[i] = Entry{i + 1, clause{-5, 4}}
		groups = append(groups, Group{i + 1, []int{1, 2}})
	}
	l[7].Lits = longest
	if o := said(l, Step{clause{5}, nil, groups}); o != (outcome{kind: RAT}) {
		t.Error(o)
	}
	last := len(groups) - 1
	groups[last].Hints = []int{1}
	if o := said(l, Step{clause{5}, nil, groups}); o != (outcome{0, length, ErrCheck}) {
		t.Error(o)
	}
	if o := said(l, Step{clause{5}, nil, groups[:last]}); o != (outcome{0, length, ErrGroup}) {
		t.Error(o)
	}
	if o := said(l, Step{clause{5, -4}, nil, groups}); o != (outcome{kind: RAT}) {
		t.Error(o)
	}
}

func TestCheckAtTheLimits(t *testing.T) {
	const top = lits.MaxVar
	var long clause
	for v := range clauses.MaxLits {
		long = append(long, lits.Lit(top-v))
	}
	for i, k := range []struct {
		l    []Entry
		s    Step
		want outcome
	}{
		{[]Entry{{1, long}}, Step{long, []int{1}, nil}, outcome{kind: RUP}}, {[]Entry{{1, long}}, Step{long[:clauses.MaxLits-1], []int{1, 1}, nil}, outcome{0, 1, rup.ErrHint}},
		{[]Entry{{MaxID, negated(long)}}, Step{long, nil, []Group{{MaxID, nil}}}, outcome{kind: RAT}},
		{[]Entry{{MaxID, negated(long)}}, Step{clause{top}, nil, []Group{{MaxID, nil}}}, outcome{0, MaxID, ErrCheck}},
		{[]Entry{{1, long[1:]}, {MaxID, append(negated(long[:1]), long[1:]...)}}, Step{clause{top}, nil, []Group{{MaxID, []int{1}}}}, outcome{kind: RAT}},
		{[]Entry{{1, nil}, {MaxID, clause{-top}}}, Step{slices.Repeat(clause{top}, clauses.MaxLits), nil, []Group{{MaxID, []int{1}}}}, outcome{kind: RAT}},
		{[]Entry{{MaxID - 1, clause{-top, top - 1}}, {MaxID, clause{-top, 1 - top}}}, Step{clause{-top}, []int{MaxID - 1, MaxID}, nil}, outcome{kind: RUP}},
		{[]Entry{{MaxID - 1, clause{top, top - 1}}, {MaxID, clause{top, 1 - top}}}, Step{clause{top}, []int{MaxID - 1, MaxID}, nil}, outcome{kind: RUP}},
	} {
		if o := said(k.l, k.s); o != k.want {
			t.Error(i, o)
		}
	}
}

// P9.4

func TestSearch(t *testing.T) {
	for i, k := range []struct {
		l    []Entry
		c    clause
		s    Step
		kind uint8
	}{
		{nil, nil, Step{}, 0}, {nil, clause{1}, Step{}, RAT}, {nil, clause{1, -1}, Step{}, RUP}, {[]Entry{{4, nil}}, nil, Step{Hints: []int{4}}, RUP},
		{[]Entry{{4, nil}}, clause{2, 1}, Step{Hints: []int{4}}, RUP}, {[]Entry{{4, nil}}, clause{1, 2, -1}, Step{}, RUP}, {example(), nil, Step{}, 0},
		{example(), clause{4, 1}, Step{Hints: []int{1, 3}}, RAT}, {example(), clause{1, 3}, Step{Hints: []int{1}}, 0},
		{example(), clause{-3, 1}, Step{Hints: []int{1, 3}}, RUP},
		{append(example(), Entry{9, clause{-1, -2}}, Entry{MaxID, clause{4, 5}}), clause{1}, Step{Hints: []int{1, 3}, Groups: []Group{{2, nil}, {9, nil}}}, 0},
		// Hints that are not needed are left out in a step of RUP, but not in one of RAT.
		{[]Entry{{3, clause{5}}, {4, clause{-5, 6}}, {8, clause{1, 2}}, {9, clause{-2, 1}}}, clause{1}, Step{Hints: []int{8, 9}}, RUP},
		{[]Entry{{3, clause{5}}, {4, clause{-6, 7}}, {8, clause{-5, 6}}, {9, clause{1, 2}}}, clause{1}, Step{Hints: []int{3, 8, 4, 9}}, RAT},
		// The first one that is unit goes, again and again; one that holds by then does not.
		{[]Entry{{1, clause{3, 4, 4}}, {2, clause{2, 1}}, {3, clause{1, -2, -3, -3}}, {4, clause{1, 4}}}, clause{1}, Step{Hints: []int{2, 3, 1}}, RAT},
		// One group without hints, since a literal is assigned by the hints; one with hints that are found.
		{[]Entry{{1, clause{-1, 3}}, {2, clause{1, 3}}, {3, clause{-1, 4}}, {4, clause{5, 4}}, {6, clause{-5, 4}}, {7, clause{-1, 1, 9}}}, clause{1},
			Step{Hints: []int{2}, Groups: []Group{{1, nil}, {3, []int{4, 6}}}}, RAT},
		// The negation of the pivot twice, and alone.
		{[]Entry{{1, clause{-1, 2, -1}}}, clause{1, -2, 1}, Step{Groups: []Group{{1, nil}}}, RAT}, {[]Entry{{1, clause{-1}}}, clause{1}, Step{}, 0},
		{[]Entry{{1, clause{-1}}}, clause{2, 1}, Step{}, RAT}, {[]Entry{{1, clause{-1, -2}}}, clause{2, 1}, Step{Groups: []Group{{1, nil}}}, RAT},
		{[]Entry{{1, clause{-1, 2}}}, clause{1}, Step{}, 0}, {[]Entry{{2, clause{-1, 2}}, {5, clause{-1, -2}}}, clause{1, 2}, Step{}, 0},
		{[]Entry{{2, clause{-1, 2}}, {5, clause{-1, -2}}}, clause{-1}, Step{Hints: []int{2, 5}}, RUP},
		{[]Entry{{2, clause{-2, 3}}, {5, clause{2, 3, 1}}, {7, clause{-1, -3}}, {8, clause{-3, 4}}}, clause{3, -4}, Step{Hints: []int{2}, Groups: []Group{{7, []int{5}}, {8, nil}}}, 0},
		{[]Entry{{2, clause{-2, 3}}, {5, clause{2, 1}}, {7, clause{1, -3}}}, clause{3, -4}, Step{Hints: []int{2, 5}, Groups: []Group{{7, nil}}}, RAT},
	} {
		k.s.Lits = k.c
		if k.kind == 0 {
			k.s = Step{}
		}
		s, kind, ok, e := Search(k.l, k.c)
		if !sameStep(s, k.s) || kind != k.kind || ok != (k.kind > 0) || e != api.OK {
			t.Error(i, s, kind, ok, e)
		}
	}
}

func TestSearchLikeTheModel(t *testing.T) {
	type feature struct {
		kind                            uint8
		hints, groups, withHints, holds bool
	}
	seen := map[feature]int{}
	d := draws(94)
	for n := range 40000 {
		vars := 2 + d.below(5)
		l := d.entries(vars, 3*vars)
		c := d.clause(vars+1, 3)
		if n%2 == 0 {
			l = d.leaning(vars, 3*vars)
			c = append(clause{1}, c...)
		}
		s, kind, ok, e := Search(l, c)
		want, wantKind, wantOK := searched(l, c)
		if !sameStep(s, want) || kind != wantKind || ok != wantOK || e != api.OK {
			t.Fatal(l, c, s, kind, ok, e, want, wantKind)
		}
		f := feature{kind: kind, hints: len(s.Hints) > 0, groups: len(s.Groups) > 0}
		for _, g := range s.Groups {
			f.withHints = f.withHints || len(g.Hints) > 0
			f.holds = f.holds || len(g.Hints) == 0
		}
		seen[f]++
	}
	for _, f := range []feature{
		{}, {kind: RUP}, {kind: RUP, hints: true}, {kind: RAT}, {kind: RAT, hints: true}, {RAT, false, true, false, true}, {RAT, true, true, false, true},
		{RAT, false, true, true, false}, {RAT, true, true, true, false}, {RAT, true, true, true, true}, {RAT, false, true, true, true},
	} {
		if seen[f] < 20 {
			t.Error(f, seen[f])
		}
	}
}

func TestSearchAmongManyEntries(t *testing.T) {
	l := many(clause{8, 9}, rup.MaxHints+1)
	l[0].Lits, l[1].Lits, l[rup.MaxHints-1].Lits = clause{1, 2}, clause{-3, 5}, clause{-2, 1}
	for i, k := range []struct {
		c    clause
		s    Step
		kind uint8
	}{
		{clause{1}, Step{Hints: []int{1, rup.MaxHints}}, RUP}, {clause{6, -6}, Step{}, RUP}, {clause{7}, Step{}, RAT},
		{clause{3, -5}, Step{Groups: []Group{{2, nil}}}, RAT}, {clause{3}, Step{}, 0}, {clause{2, -1}, Step{Groups: []Group{{rup.MaxHints, nil}}}, 0},
	} {
		k.s.Lits = k.c
		s, kind, ok, e := Search(l[:rup.MaxHints], k.c)
		want := k.s
		if i == 5 {
			want = Step{clause{2, -1}, nil, []Group{{rup.MaxHints, nil}}}
			k.kind = RAT
		}
		if k.kind == 0 {
			want = Step{}
		}
		if !sameStep(s, want) || kind != k.kind || ok != (k.kind > 0) || e != api.OK {
			t.Error(i, s, kind, ok, e)
		}
		if s, kind, ok, e := Search(l, k.c); !sameStep(s, Step{}) || kind != 0 || ok || e != api.OK {
			t.Error(i, s, kind, ok, e)
		}
	}
}

func TestSearchWithManyAssigned(t *testing.T) {
	// So many literals are assigned that one more is left, then none.
	for _, n := range []int{clauses.MaxLits - 2, clauses.MaxLits - 1, clauses.MaxLits} {
		l := chain(n - 1)
		at := len(l)
		const a, b, c = 9001, 9002, 9003
		// The pivot is a; a candidate has literals that failed, too, which count once.
		l = append(l, Entry{at + 1, clause{-a, b, -1, -2}}, Entry{at + 2, clause{b, c}}, Entry{at + 3, clause{b, -c}})
		s, kind, ok, e := Search(l, clause{a})
		want, is := Step{clause{a}, ids(chain(n - 1)), []Group{{at + 1, []int{at + 2, at + 3}}}}, RAT
		if n == clauses.MaxLits {
			want, is = Step{}, 0
		}
		if !sameStep(s, want) || kind != is || ok != (is != 0) || e != api.OK {
			t.Error(n, len(s.Hints), s.Groups, kind, ok, e)
		}
		// It does not matter how many there are if hints are not needed.
		l[at].Lits = clause{-a, b, 1}
		s, kind, ok, e = Search(l, clause{a})
		want = Step{clause{a}, ids(chain(n - 1)), []Group{{at + 1, nil}}}
		if !sameStep(s, want) || kind != RAT || !ok || e != api.OK {
			t.Error(n, len(s.Hints), s.Groups, kind, ok, e)
		}
	}
}

func TestSearchTakesManyUnits(t *testing.T) {
	l := chain(rup.MaxHints)
	slices.Reverse(l)
	for i := range l {
		l[i].ID = i + 1
	}
	want := ids(l)
	slices.Reverse(want)
	s, kind, ok, e := Search(l, clause{lits.MaxVar})
	if !sameStep(s, Step{clause{lits.MaxVar}, want, nil}) || kind != RAT || !ok || e != api.OK {
		t.Error(len(s.Hints), kind, ok, e)
	}
	// Long clauses, of which a literal is gone at a time.
	l = nil
	for v := lits.Lit(1); v <= 1000; v++ {
		var c clause
		for w := lits.Lit(1); w < v; w++ {
			c = append(c, -w, -w)
		}
		l = append(l, Entry{int(v), append(c, v)})
	}
	s, kind, ok, e = Search(l, clause{lits.MaxVar})
	if !sameStep(s, Step{clause{lits.MaxVar}, ids(l), nil}) || kind != RAT || !ok || e != api.OK {
		t.Error(len(s.Hints), kind, ok, e)
	}
}

// P9.5

// assignments are all right lists in which each of some variables is there once, or not; some are in another order, and some have a literal twice.
func assignments(vars int) [][]lits.Lit {
	all := [][]lits.Lit{nil}
	for v := 1; v <= vars; v++ {
		for _, a := range all {
			x := lits.Lit(v)
			all = append(all, append(slices.Clone(a), x), append([]lits.Lit{-x}, a...))
		}
	}
	for _, a := range all {
		if len(a) > 0 {
			all = append(all, append(slices.Clone(a), a[0]))
		}
	}
	return all
}

// noAssigned are lists that have no assigned literals.
func noAssigned() [][]lits.Lit {
	l := [][]lits.Lit{{1, -1}, {-1, 1}, {2, 1, 3, -2}, {1, 1, -1}, {lits.MaxVar, -lits.MaxVar}, {-5, 4, 3, 2, 1, 5}}
	for _, n := range noLits() {
		l = append(l, []lits.Lit{n}, []lits.Lit{n, 1}, []lits.Lit{1, n, -2}, []lits.Lit{1, -2, n}, []lits.Lit{n, n})
	}
	return l
}

func TestRepair(t *testing.T) {
	const top = lits.MaxVar
	for i, k := range []struct {
		c           clause
		a, repaired []lits.Lit
	}{
		{clause{1}, nil, []lits.Lit{1}}, {clause{1}, []lits.Lit{}, []lits.Lit{1}}, {clause{1}, []lits.Lit{1}, []lits.Lit{1}}, {clause{1}, []lits.Lit{-1}, []lits.Lit{1}},
		{clause{1}, []lits.Lit{2, -1, 3}, []lits.Lit{2, 1, 3}}, {clause{1}, []lits.Lit{2, 3}, []lits.Lit{2, 3, 1}}, {clause{1, 2}, []lits.Lit{2, 3, -1}, []lits.Lit{2, 3, -1}},
		{clause{1, 2}, []lits.Lit{-2, -1, -2, -1}, []lits.Lit{-2, 1, -2, 1}}, {clause{-1, 2}, []lits.Lit{1, 1, 3}, []lits.Lit{-1, -1, 3}}, {clause{2, 1}, []lits.Lit{-1}, []lits.Lit{-1, 2}},
		{clause{1, -1}, nil, []lits.Lit{1}}, {clause{1, -1}, []lits.Lit{-1}, []lits.Lit{-1}}, {clause{-1, 1, 1}, []lits.Lit{2}, []lits.Lit{2, -1}}, {clause{2, 2}, []lits.Lit{-2}, []lits.Lit{2}},
		{clause{top}, []lits.Lit{-top, 1}, []lits.Lit{top, 1}}, {clause{-top}, []lits.Lit{top - 1}, []lits.Lit{top - 1, -top}}, {clause{5, 1}, []lits.Lit{1, 1}, []lits.Lit{1, 1}},
		{slices.Repeat(clause{1}, clauses.MaxLits), []lits.Lit{-1}, []lits.Lit{1}},
	} {
		if l, e := Repair(k.c, k.a); !slices.Equal(l, k.repaired) || e != api.OK {
			t.Error(i, l, e)
		}
	}
	many := make([]lits.Lit, lits.MaxVar)
	for i := range many {
		many[i] = lits.Lit(-i - 1)
	}
	l, e := Repair(clause{7, 8}, many)
	many[6] = 7
	if !slices.Equal(l, many) || e != api.OK {
		t.Error(len(l), e)
	}
}

// short are all lists of so many literals, at most, of some variables.
func short(vars, length int) []clause {
	l := []clause{nil}
	begin := 0
	for range length {
		end := len(l)
		for _, c := range l[begin:end] {
			for v := 1; v <= vars; v++ {
				l = append(l, append(slices.Clone(c), lits.Lit(v)), append(slices.Clone(c), lits.Lit(-v)))
			}
		}
		begin = end
	}
	return l
}

func TestRepairOfAllShortClauses(t *testing.T) {
	for _, c := range short(3, 3)[1:] {
		for _, a := range assignments(3) {
			want := slices.Clone(a)
			_, holds := state(a).unassigned(c)
			if !holds && !slices.Contains(a, -c[0]) {
				want = append(want, c[0])
			}
			for i, x := range want {
				if !holds && x == -c[0] {
					want[i] = c[0]
				}
			}
			l, e := Repair(c, a)
			if !slices.Equal(l, want) || e != api.OK {
				t.Fatal(c, a, l, e)
			}
			if kind, _, f := rup.Look(c, l); kind != rup.Holds || f != api.OK {
				t.Fatal(c, a, l, kind, f)
			}
		}
	}
}

func TestRepairOfWhatIsWrong(t *testing.T) {
	for _, a := range append(assignments(2), noAssigned()...) {
		for _, c := range noClauses() {
			if l, e := Repair(c, a); len(l) != 0 || e != clauses.ErrClause {
				t.Error(c[0], a, l, e)
			}
		}
	}
	for _, a := range noAssigned() {
		for _, c := range []clause{nil, {}, {1}, {2, -2}, {-1, 5}} {
			if l, e := Repair(c, a); len(l) != 0 || e != rup.ErrAssigned {
				t.Error(c, a, l, e)
			}
		}
	}
	for _, a := range assignments(2) {
		for _, c := range []clause{nil, {}} {
			if l, e := Repair(c, a); len(l) != 0 || e != rup.ErrEnd {
				t.Error(c, a, l, e)
			}
		}
	}
}

// P9.6

// valued returns a literal for each of 6 variables, as the bits of a number say.
func valued(model int) []lits.Lit {
	var l []lits.Lit
	for v := 1; v <= 6; v++ {
		l = append(l, lits.Lit(v*(2*(model>>v&1)-1)))
	}
	return l
}

// holdAll reports whether all clauses of entries hold in a model.
func holdAll(l []Entry, model []lits.Lit) bool {
	return !slices.ContainsFunc(l, func(entry Entry) bool {
		return !slices.ContainsFunc(entry.Lits, func(x lits.Lit) bool { return slices.Contains(model, x) })
	})
}

func TestStepsKeepModels(t *testing.T) {
	repairs := 0
	for _, q := range steps() {
		kind, _, _ := Check(q.l, q.s)
		if kind == 0 {
			continue
		}
		for m := 0; m < 128; m += 2 {
			model := valued(m)
			if !holdAll(q.l, model) {
				continue
			}
			if !holdAll([]Entry{{1, q.s.Lits}}, model) {
				if kind == RUP {
					t.Fatal(q, model)
				}
				repairs++
			}
			if kind == RUP {
				continue
			}
			repaired, e := Repair(q.s.Lits, model)
			if len(repaired) != 6 || !rup.Right(repaired) || !holdAll(q.l, repaired) || !holdAll([]Entry{{1, q.s.Lits}}, repaired) || e != api.OK {
				t.Fatal(q, model, repaired, e)
			}
		}
	}
	if repairs < 1000 {
		t.Error(repairs)
	}
}

func TestWhatIsFoundIsRight(t *testing.T) {
	seen := map[uint8]int{}
	d := draws(96)
	for range 10000 {
		vars := 2 + d.below(5)
		l := d.entries(vars, 3*vars)
		c := d.clause(vars+1, 3)
		s, kind, ok, _ := Search(l, c)
		if !ok {
			continue
		}
		if o := said(l, s); o != (outcome{kind: kind}) {
			t.Fatal(l, s, kind, o)
		}
		text, e := Join(s.Hints, s.Groups)
		hints, groups, f := Split(text)
		if !sameStep(s, Step{c, hints, groups}) || e+f != api.OK {
			t.Fatal(s, text, hints, groups, e, f)
		}
		seen[kind]++
	}
	if seen[RUP] < 500 || seen[RAT] < 500 {
		t.Error(seen)
	}
}

// Rules

// mark stands in the spare memory of slices.
const mark = 77

// spare returns a copy of a slice that has marks in its spare memory.
func spare[S ~[]E, E any](l S, mark E) S {
	return append(append(make(S, 0, len(l)+2), l...), mark, mark)[:len(l)]
}

// sealed returns a copy of entries and of a step with spare memory, and a function that reports whether all of it is as it was.
func sealed(l []Entry, s Step) ([]Entry, Step, func() bool) {
	l, s = spare(l, Entry{mark, nil}), Step{spare(s.Lits, mark), spare(s.Hints, mark), spare(s.Groups, Group{mark, nil})}
	for i, entry := range l {
		l[i].Lits = spare(entry.Lits, mark)
	}
	for i, g := range s.Groups {
		s.Groups[i].Hints = spare(g.Hints, mark)
	}
	wasEntries, wasStep := spread(l, s)
	return l, s, func() bool {
		entries, step := spread(l, s)
		return slices.EqualFunc(entries, wasEntries, sameEntry) && sameStep(step, wasStep)
	}
}

// spread returns a copy of entries and of a step, of which the spare memory is no longer spare.
func spread(l []Entry, s Step) ([]Entry, Step) {
	l = slices.Clone(l[:len(l)+2])
	for i, entry := range l {
		l[i].Lits = slices.Clone(entry.Lits[:cap(entry.Lits)])
	}
	s = Step{slices.Clone(s.Lits[:len(s.Lits)+2]), slices.Clone(s.Hints[:len(s.Hints)+2]), slices.Clone(s.Groups[:len(s.Groups)+2])}
	for i, g := range s.Groups {
		s.Groups[i].Hints = slices.Clone(g.Hints[:cap(g.Hints)])
	}
	return l, s
}

// fill writes a number into all of a slice, and into its spare memory.
func fill[E any](l []E, n E) {
	l = l[:cap(l)]
	for i := range l {
		l[i] = n
	}
}

func TestArgumentsStay(t *testing.T) {
	for n, q := range steps() {
		if n%5 != 0 {
			continue
		}
		l, s, stays := sealed(q.l, q.s)
		Right(l)
		Find(l, 3)
		ids, _ := Candidates(l, 1)
		Check(l, s)
		found, _, _, _ := Search(l, s.Lits)
		text, _ := Join(s.Hints, s.Groups)
		hints, groups, _ := Split(s.Hints)
		var assigned []lits.Lit
		if !isAlways(s.Lits) {
			assigned = slices.Clone(negated(s.Lits))
		}
		assigned = spare(assigned, mark)
		was := slices.Clone(assigned[:cap(assigned)])
		repaired, _ := Repair(s.Lits, assigned)
		again, _ := Repair(s.Lits, repaired)
		if !stays() || !slices.Equal(was, assigned[:cap(assigned)]) {
			t.Fatal(q)
		}
		// What is done with results is seen nowhere else.
		for _, r := range [][]int{ids, text, hints, found.Hints} {
			fill(r, 9)
		}
		fill(repaired, 9)
		for _, g := range append(groups, found.Groups...) {
			fill(g.Hints, 9)
		}
		fill(found.Lits, 9)
		if !stays() || !slices.Equal(was, assigned[:cap(assigned)]) || slices.Contains(again, 9) {
			t.Fatal(q)
		}
	}
}

func TestResultsShareNoMemory(t *testing.T) {
	hints, groups, _ := Split([]int{1, 2, 3, -4, 5, 6, -7, 8, 9, -10})
	want := copied(Step{nil, hints, groups})
	hints = append(hints, 77)
	for i := range groups {
		g := append(groups[i].Hints, 77)
		fill(g[len(g)-1:], 78)
	}
	if !sameStep(Step{nil, hints[:3], groups}, want) {
		t.Error(hints, groups)
	}
	l := []Entry{{1, clause{-1, 3}}, {2, clause{1, 3, 7}}, {3, clause{-1, 4}}, {4, clause{5, 4}}, {6, clause{-5, 4}}, {7, clause{-1, 4, 8}}}
	s, _, _, _ := Search(l, clause{1, 7, -3})
	want = copied(s)
	if len(s.Groups) != 3 || len(s.Groups[1].Hints) != 2 || len(s.Groups[2].Hints) != 2 {
		t.Fatal(s)
	}
	fill(s.Groups[1].Hints, 9)
	fill(append(s.Hints, 5), 9)
	if !slices.Equal(s.Groups[2].Hints, want.Groups[2].Hints) || !slices.Equal(s.Lits, want.Lits) {
		t.Error(s)
	}
	again, _, _, _ := Search(l, clause{1, 7, -3})
	if !sameStep(again, want) {
		t.Error(again)
	}
}
