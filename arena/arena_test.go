package arena

import (
	"maps"
	"math"
	"slices"
	"testing"

	"salvor/api"
	"salvor/clauses"
	"salvor/lits"
)

type clause = clauses.Clause

// from returns the clause of some variables, from one on.
func from(first, many int) clause {
	c := make(clause, many)
	for i := range c {
		c[i] = lits.Lit(first + i)
	}
	return c
}

// numbered returns a clause of some literals that goes with a number.
func numbered(id, many int) clause { return from(1+id%(1<<19), many) }

// noClauses are lists that are no clauses.
func noClauses() []clause {
	return []clause{
		{0}, {1, 2, 0}, {lits.MaxVar + 1}, {1, -lits.MaxVar - 1}, {math.MinInt}, {math.MaxInt, 1},
		from(1, clauses.MaxLits+1), slices.Repeat(clause{1}, clauses.MaxLits+1),
	}
}

// noNumbers are numbers that no clause can have.
func noNumbers() []int {
	return []int{0, -1, -2, -MaxID, MaxID + 1, 1<<32 + 1, math.MaxInt, math.MinInt}
}

// noArenas are pointers to what New did not return.
func noArenas() []*Arena { return []*Arena{nil, {}, new(Arena)} }

// model is what an arena has to be like: its clauses, and the greatest number that was added.
type model struct {
	clauses map[int]clause
	last    int
}

func newModel() *model { return &model{clauses: map[int]clause{}} }

func (m *model) add(id int, c clause) {
	m.clauses[id] = slices.Clone(c)
	m.last = id
}

// numbers returns the numbers of all clauses, in increasing order.
func (m *model) numbers() []int { return slices.Sorted(maps.Keys(m.clauses)) }

func (m *model) used() int {
	n := 0
	for _, c := range m.clauses {
		n += len(c)
	}
	return n
}

// pair is what All yields at once.
type pair struct {
	id int
	c  clause
}

// all returns what All yields.
func all(a *Arena) []pair {
	var l []pair
	for id, c := range a.All() {
		l = append(l, pair{id, c})
	}
	return l
}

func equal(p, q pair) bool { return p.id == q.id && slices.Equal(p.c, q.c) }

// agreeInSizes checks what an arena says of itself against a model.
func agreeInSizes(t *testing.T, a *Arena, m *model) {
	t.Helper()
	used := m.used()
	if a.Count() != len(m.clauses) || a.Used() != used || a.Last() != m.last {
		t.Fatal(a.Count(), len(m.clauses), a.Used(), used, a.Last(), m.last)
	}
	if a.Held() < used || a.Held() > 2*used+Slack {
		t.Fatal("held", a.Held(), "used", used)
	}
}

// agreeAt checks what an arena says of one number.
func agreeAt(t *testing.T, a *Arena, m *model, id int) {
	t.Helper()
	want, there := m.clauses[id]
	wanted, beyond := ErrID, ErrID
	if there {
		wanted, beyond = api.OK, api.ErrArg
	}
	got, e := a.Get(id)
	n, f := a.Len(id)
	if a.Has(id) != there || !slices.Equal(got, want) || e != wanted || n != len(want) || f != wanted {
		t.Fatal(id, a.Has(id), got, e, n, f)
	}
	for i := -1; i <= len(want); i++ {
		l, e := a.Lit(id, i)
		switch {
		case 0 <= i && i < len(want) && (l != want[i] || e != api.OK):
			t.Fatal(id, i, l, e)
		case (i < 0 || i == len(want)) && (l != 0 || e != beyond):
			t.Fatal(id, i, l, e)
		}
	}
}

// agree checks all that an arena says against a model.
func agree(t *testing.T, a *Arena, m *model) {
	t.Helper()
	agreeInSizes(t, a, m)
	for id := range m.last + 2 {
		agreeAt(t, a, m, id)
	}
	var want []pair
	for _, id := range m.numbers() {
		want = append(want, pair{id, m.clauses[id]})
	}
	if got := all(a); !slices.EqualFunc(got, want, equal) {
		t.Fatal(got, want)
	}
}

// filled returns an arena that has some clauses of a size, with the numbers from 1 on, and a model of it.
func filled(t *testing.T, many, size int) (*Arena, *model) {
	t.Helper()
	a, m := New(), newModel()
	for id := 1; id <= many; id++ {
		c := numbered(id, size)
		if e := a.Add(id, c); e != api.OK {
			t.Fatal(id, e)
		}
		m.add(id, c)
	}
	return a, m
}

// remove takes a clause away, out of an arena and its model.
func remove(t *testing.T, a *Arena, m *model, id int) {
	t.Helper()
	if e := a.Delete(id); e != api.OK {
		t.Fatal(id, e)
	}
	delete(m.clauses, id)
}

// draws are numbers that follow no plain rule, but are the same in each run of the tests.
type draws uint64

func (d *draws) below(bound int) int {
	*d = *d*6364136223846793005 + 1442695040888963407
	return int(*d>>33) % bound
}

func TestConstants(t *testing.T) {
	if MaxID != 1<<30 || MaxStore != 1<<20 || Slack != 64 || ErrID != 30 {
		t.Error(MaxID, MaxStore, Slack, ErrID)
	}
}

func TestExamples(t *testing.T) {
	a := New()
	for i, c := range []struct {
		id int
		c  clause
		e  api.Errno
	}{{1, clause{3, -1}, api.OK}, {4, clause{2}, api.OK}, {4, clause{2}, ErrID}, {2, clause{2}, ErrID}} {
		if e := a.Add(c.id, c.c); e != c.e {
			t.Error(i, e)
		}
	}
	if a.Count() != 2 || a.Used() != 3 || a.Last() != 4 {
		t.Error(a.Count(), a.Used(), a.Last())
	}
	l, e := a.Lit(1, 1)
	none, f := a.Lit(1, 2)
	if l != -1 || e != api.OK || none != 0 || f != api.ErrArg {
		t.Error(l, e, none, f)
	}
	if e := a.Delete(1); e != api.OK || a.Used() != 1 || a.Held() < 1 || a.Held() > 66 {
		t.Error(e, a.Used(), a.Held())
	}
	if got := all(a); !slices.EqualFunc(got, []pair{{4, clause{2}}}, equal) {
		t.Error(got)
	}
	if e := a.Delete(1); e != ErrID {
		t.Error(e)
	}
	if e := a.Add(5, nil); e != api.OK {
		t.Error(e)
	}
	if n, e := a.Len(5); n != 0 || e != api.OK {
		t.Error(n, e)
	}
}

// P3.1

func TestNewHasNothing(t *testing.T) {
	a := New()
	agree(t, a, newModel())
	for _, id := range append(noNumbers(), 1, 2, MaxID) {
		agreeAt(t, a, newModel(), id)
	}
	// Arenas have nothing in common.
	b := New()
	a.Add(3, clause{1})
	agree(t, b, newModel())
	if e := b.Add(2, clause{7, 8}); e != api.OK || a.Has(2) || a.Used() != 1 {
		t.Error(e, a.Has(2), a.Used())
	}
}

func TestAddKeepsLiteralsInTheirOrder(t *testing.T) {
	a, m := New(), newModel()
	for i, c := range []clause{
		{3, -1}, nil, {5}, {2, 2, -2, 2}, {}, {-7, -7}, {9, 8, 7, 6, -5, 4}, {1, -1}, {lits.MaxVar, -lits.MaxVar},
		slices.Repeat(clause{-4}, clauses.MaxLits), from(1, clauses.MaxLits), {1},
	} {
		id := 3*i + 2
		if e := a.Add(id, c); e != api.OK {
			t.Fatal(id, e)
		}
		m.add(id, c)
		agree(t, a, m)
	}
}

func TestAddOfNumbers(t *testing.T) {
	for i, c := range []struct {
		ids []int
		e   api.Errno // of the last one
	}{
		{[]int{1}, api.OK},
		{[]int{MaxID}, api.OK},
		{[]int{0}, ErrID},
		{[]int{-1}, ErrID},
		{[]int{math.MinInt}, ErrID},
		{[]int{MaxID + 1}, ErrID},
		{[]int{1<<32 + 1}, ErrID},
		{[]int{math.MaxInt}, ErrID},
		{[]int{1, 2}, api.OK},
		{[]int{1, 1}, ErrID},
		{[]int{2, 1}, ErrID},
		{[]int{5, 9, 9}, ErrID},
		{[]int{5, 9, 8}, ErrID},
		{[]int{5, 9, 10}, api.OK},
		{[]int{5, 9, 0}, ErrID},
		{[]int{MaxID - 1, MaxID}, api.OK},
		{[]int{MaxID - 1, MaxID, MaxID + 1}, ErrID},
		{[]int{MaxID, MaxID}, ErrID},
		{[]int{MaxID, 1}, ErrID},
	} {
		a, m := New(), newModel()
		for j, id := range c.ids {
			e := a.Add(id, clause{1, 2})
			if j < len(c.ids)-1 && e != api.OK || j == len(c.ids)-1 && e != c.e {
				t.Error(i, j, e)
			}
			if e == api.OK {
				m.add(id, clause{1, 2})
			}
			agreeInSizes(t, a, m)
		}
		for _, id := range append(c.ids, noNumbers()...) {
			agreeAt(t, a, m, id)
		}
	}
}

func TestANumberIsGivenOnce(t *testing.T) {
	// Large clauses make it necessary to move the store, which then has nothing of what is gone.
	for _, size := range []int{0, 2, 400} {
		a, m := filled(t, 4, size)
		for _, id := range []int{2, 4, 3, 1} {
			remove(t, a, m, id)
			for _, again := range []int{1, 2, 3, 4} {
				if e := a.Add(again, clause{9}); e != ErrID {
					t.Error(size, id, again, e)
				}
			}
			agree(t, a, m)
		}
		if e := a.Add(5, clause{9}); e != api.OK {
			t.Error(size, e)
		}
		m.add(5, clause{9})
		agree(t, a, m)
	}
	// Not even the greatest one is given again.
	a := New()
	a.Add(MaxID, nil)
	a.Delete(MaxID)
	if e := a.Add(MaxID, nil); e != ErrID || a.Last() != MaxID || a.Has(MaxID) {
		t.Error(e, a.Last(), a.Has(MaxID))
	}
}

func TestAddOfNoClause(t *testing.T) {
	a, m := filled(t, 3, 2)
	for i, c := range noClauses() {
		// It comes before numbers that are wrong.
		for _, id := range append(noNumbers(), 4, 3, 1, MaxID) {
			if e := a.Add(id, c); e != clauses.ErrClause {
				t.Error(i, id, e)
			}
		}
		agree(t, a, m)
	}
	// What was not added does not count for the next number.
	if e := a.Add(4, clause{5}); e != api.OK {
		t.Error(e)
	}
}

func TestAFullStore(t *testing.T) {
	const many = MaxStore / clauses.MaxLits
	a, m := filled(t, many, clauses.MaxLits)
	agreeInSizes(t, a, m)
	check := func(id int, c clause, want api.Errno) {
		t.Helper()
		e := a.Add(id, c)
		if e != want {
			t.Error(id, len(c), e)
		}
		if e == api.OK {
			m.add(id, c)
		}
		agreeInSizes(t, a, m)
		agreeAt(t, a, m, id)
	}
	check(many+1, clause{1}, api.ErrFull)
	check(many+1, from(1, clauses.MaxLits), api.ErrFull)
	check(many+1, nil, api.OK)
	check(many+1, clause{1}, ErrID)
	check(many+2, clause{0}, clauses.ErrClause)
	check(0, clause{1}, ErrID)
	check(MaxID+1, clause{1}, ErrID)
	// What is held by clauses that are gone does not count.
	remove(t, a, m, 7)
	agreeInSizes(t, a, m)
	check(many+2, from(1, clauses.MaxLits-1), api.OK)
	check(many+3, clause{1, 2}, api.ErrFull)
	check(many+3, clause{-1}, api.OK)
	check(many+4, clause{-1}, api.ErrFull)
	check(MaxID, nil, api.OK)
	for id := range many + 5 {
		agreeAt(t, a, m, id)
	}
}

// P3.2

func TestDeleteOfEach(t *testing.T) {
	const many = 5
	for first := 1; first <= many; first++ {
		for second := 1; second <= many; second++ {
			a, m := filled(t, many, 3)
			remove(t, a, m, first)
			agree(t, a, m)
			want := api.OK
			if second == first {
				want = ErrID
			}
			if e := a.Delete(second); e != want {
				t.Error(first, second, e)
			}
			delete(m.clauses, second)
			agree(t, a, m)
		}
	}
}

func TestDeleteOfNone(t *testing.T) {
	a, m := filled(t, 3, 2)
	a.Add(6, nil)
	m.add(6, nil)
	for _, id := range append(noNumbers(), 4, 5, 7, MaxID) {
		if e := a.Delete(id); e != ErrID {
			t.Error(id, e)
		}
		agreeAt(t, a, m, id)
	}
	agree(t, a, m)
}

func TestErrorsOfLit(t *testing.T) {
	a := New()
	for i, c := range []clause{{1, 2, 3}, {6, 7, 8}, nil, {5}} {
		a.Add(i+1, c)
	}
	a.Delete(2)
	for i, c := range []struct {
		id, i int
		want  lits.Lit
		e     api.Errno
	}{
		{1, 0, 1, api.OK},
		{1, 2, 3, api.OK},
		{1, 3, 0, api.ErrArg}, // not what stands behind the clause
		{1, -1, 0, api.ErrArg},
		{1, math.MaxInt, 0, api.ErrArg},
		{1, math.MinInt, 0, api.ErrArg},
		{2, 0, 0, ErrID},
		{2, -1, 0, ErrID},
		{2, 9, 0, ErrID},
		{3, 0, 0, api.ErrArg},
		{3, -1, 0, api.ErrArg},
		{4, 0, 5, api.OK},
		{4, -1, 0, api.ErrArg}, // nor before it
		{4, 1, 0, api.ErrArg},
		{5, 0, 0, ErrID},
		{0, -1, 0, ErrID},
		{math.MaxInt, math.MaxInt, 0, ErrID},
	} {
		if l, e := a.Lit(c.id, c.i); l != c.want || e != c.e {
			t.Error(i, l, e)
		}
	}
}

func TestTheEmptyClause(t *testing.T) {
	a, m := New(), newModel()
	for id := 2; id <= 8; id += 2 {
		if e := a.Add(id, nil); e != api.OK {
			t.Fatal(id, e)
		}
		m.add(id, nil)
		agree(t, a, m)
	}
	for _, id := range []int{4, 8, 2, 6} {
		remove(t, a, m, id)
		agree(t, a, m)
	}
}

// P3.3

func TestAllStops(t *testing.T) {
	a, _ := filled(t, 5, 1)
	a.Delete(2)
	want := []int{1, 3, 4, 5}
	seq := a.All()
	for stop := range 5 {
		// The same function begins anew each time.
		var got []int
		for id := range seq {
			if len(got) == stop {
				break
			}
			got = append(got, id)
		}
		if !slices.Equal(got, want[:stop]) {
			t.Error(stop, got)
		}
	}
	a.Delete(1)
	a.Add(9, nil)
	var got []int
	for id := range seq {
		got = append(got, id)
	}
	if !slices.Equal(got, []int{3, 4, 5, 9}) {
		t.Error(got)
	}
}

func TestAllWithinAll(t *testing.T) {
	a, _ := filled(t, 4, 2)
	var got [][2]int
	for i := range a.All() {
		for j := range a.All() {
			if j > i {
				break
			}
			got = append(got, [2]int{i, j})
		}
	}
	want := [][2]int{{1, 1}, {2, 1}, {2, 2}, {3, 1}, {3, 2}, {3, 3}, {4, 1}, {4, 2}, {4, 3}, {4, 4}}
	if !slices.Equal(got, want) {
		t.Error(got)
	}
}

// TestAllMeanwhile changes an arena at one of its clauses, and looks which ones come.
func TestAllMeanwhile(t *testing.T) {
	for i, c := range []struct {
		at            int
		deleted, more []int
		want          []int
	}{
		{1, []int{1}, nil, []int{1, 2, 3, 4, 5}},
		{1, []int{2}, nil, []int{1, 3, 4, 5}},
		{1, []int{3}, nil, []int{1, 2, 4, 5}},
		{1, []int{5}, nil, []int{1, 2, 3, 4}},
		{1, []int{1, 2, 3, 4, 5}, nil, []int{1}},
		{3, []int{1}, nil, []int{1, 2, 3, 4, 5}},
		{3, []int{1, 2, 3}, nil, []int{1, 2, 3, 4, 5}},
		{3, []int{1, 2, 3, 4}, nil, []int{1, 2, 3, 5}},
		{3, []int{4, 5}, nil, []int{1, 2, 3}},
		{5, []int{5}, nil, []int{1, 2, 3, 4, 5}},
		{5, []int{1, 2, 3, 4, 5}, nil, []int{1, 2, 3, 4, 5}},
		{1, nil, []int{6}, []int{1, 2, 3, 4, 5, 6}},
		{3, nil, []int{6, MaxID}, []int{1, 2, 3, 4, 5, 6, MaxID}},
		{5, nil, []int{8}, []int{1, 2, 3, 4, 5, 8}},
		{5, []int{1, 2, 3, 4, 5}, []int{7, 9}, []int{1, 2, 3, 4, 5, 7, 9}},
		{2, []int{1, 3, 4, 5}, []int{7}, []int{1, 2, 7}},
	} {
		// Of 400 literals each, three clauses that are gone make it necessary to move the store; small ones may stay.
		for _, size := range []int{0, 1, 400} {
			a, _ := filled(t, 5, size)
			var got []int
			for id, x := range a.All() {
				got = append(got, id)
				if !slices.Equal(x, numbered(id, size)) {
					t.Error(i, size, id, x)
				}
				if id != c.at {
					continue
				}
				for _, d := range c.deleted {
					a.Delete(d)
				}
				for _, n := range c.more {
					a.Add(n, numbered(n, size))
				}
				for n := range x {
					x[n] = -1 // what was yielded is not the arena's
				}
			}
			if !slices.Equal(got, c.want) {
				t.Error(i, size, got)
			}
		}
	}
}

// TestAllWhileMuchChanges holds each clause that comes against the first one that the model has behind the last one that came.
func TestAllWhileMuchChanges(t *testing.T) {
	for seed := range draws(60) {
		d := seed
		size := []int{1, 5, 30}[d.below(3)]
		a, m := filled(t, 40, size)
		last := 0
		for id, c := range a.All() {
			want := slices.IndexFunc(m.numbers(), func(n int) bool { return n > last })
			if want < 0 || m.numbers()[want] != id || !slices.Equal(c, m.clauses[id]) {
				t.Fatal(seed, last, id, c)
			}
			last = id
			for range d.below(6) {
				if there := m.numbers(); len(there) > 0 {
					remove(t, a, m, there[d.below(len(there))])
				}
			}
			if more := m.last + 1 + d.below(3); more < 120 && d.below(2) == 0 {
				c := numbered(more, d.below(2*size))
				if e := a.Add(more, c); e != api.OK {
					t.Fatal(seed, more, e)
				}
				m.add(more, c)
			}
			agreeInSizes(t, a, m)
		}
		for _, id := range m.numbers() {
			if id > last {
				t.Fatal(seed, last, "did not come:", id)
			}
		}
		agree(t, a, m)
	}
}

// P3.4

func TestSizes(t *testing.T) {
	a := New()
	for i, c := range []struct {
		change            func() api.Errno
		count, used, last int
	}{
		{func() api.Errno { return api.OK }, 0, 0, 0},
		{func() api.Errno { return a.Add(3, clause{1, 1, 2}) }, 1, 3, 3},
		{func() api.Errno { return a.Add(4, nil) }, 2, 3, 4},
		{func() api.Errno { return a.Add(9, clause{-5}) }, 3, 4, 9},
		{func() api.Errno { return a.Delete(9) }, 2, 3, 9},
		{func() api.Errno { return a.Delete(3) }, 1, 0, 9},
		{func() api.Errno { return a.Delete(4) }, 0, 0, 9},
		{func() api.Errno { return a.Add(MaxID, clause{7}) }, 1, 1, MaxID},
		{func() api.Errno { return a.Delete(MaxID) }, 0, 0, MaxID},
	} {
		e := c.change()
		if e != api.OK || a.Count() != c.count || a.Used() != c.used || a.Last() != c.last {
			t.Error(i, e, a.Count(), a.Used(), a.Last())
		}
		if a.Held() < c.used || a.Held() > 2*c.used+Slack {
			t.Error(i, a.Held())
		}
	}
}

func TestHeldStaysWithinItsBounds(t *testing.T) {
	// Clauses go from the first one on, from the last one on, and here and there.
	for _, size := range []int{1, 2, 63, 64, 65, 200} {
		const many = 150
		for _, step := range []int{1, many - 1, many/2 + 2} {
			a, m := filled(t, many, size)
			id := 0
			for range many - 1 {
				id = (id + step) % many
				for !a.Has(id + 1) {
					id = (id + 1) % many
				}
				remove(t, a, m, id+1)
				agreeInSizes(t, a, m)
			}
			agree(t, a, m)
		}
	}
}

func TestWhatIsGoneIsNotKept(t *testing.T) {
	for _, size := range []int{0, 1, 40} {
		a, m := filled(t, 5000, size)
		for id := 1; id < 5000; id++ {
			remove(t, a, m, id)
		}
		// The last one goes by itself, so that nothing is there that could tell.
		remove(t, a, m, 5000)
		if a.Held() > Slack || cap(a.store) > Slack || len(a.entries) > Slack || cap(a.entries) > 2*Slack {
			t.Error(size, a.Held(), cap(a.store), len(a.entries), cap(a.entries))
		}
		agree(t, a, m)
	}
}

// P3.5

// TestShortRuns tries all runs of a few changes, with clauses of which some make it necessary to move the store.
func TestShortRuns(t *testing.T) {
	const kinds, length = 7, 6
	runs := 1
	for range length {
		runs *= kinds
	}
	for run := range runs {
		a, m := New(), newModel()
		for rest := run; rest > 0; rest /= kinds {
			there := m.numbers()
			switch kind := rest % kinds; {
			case kind < 4:
				id, c := m.last+1+kind%2, from(m.last+1, []int{0, 1, 30, 66}[kind])
				if e := a.Add(id, c); e != api.OK {
					t.Fatal(run, e)
				}
				m.add(id, c)
			case len(there) == 0:
				if e := a.Delete(m.last); e != ErrID {
					t.Fatal(run, e)
				}
			default:
				remove(t, a, m, there[(len(there)-1)*(kind-4)/2])
			}
			agreeInSizes(t, a, m)
		}
		agree(t, a, m)
	}
}

func TestALongRun(t *testing.T) {
	for seed := range draws(4) {
		d := seed
		a, m := New(), newModel()
		for step := range 6000 {
			// It grows for a while, and then shrinks.
			grows := d.below(10) < 7
			if step/500%2 == 1 {
				grows = d.below(10) < 3
			}
			if there := m.numbers(); grows || len(there) == 0 {
				id := m.last + 1 + d.below(3)
				c := from(1+d.below(9999), d.below(1+d.below(60)))
				if e := a.Add(id, c); e != api.OK {
					t.Fatal(seed, step, e)
				}
				m.add(id, c)
			} else {
				remove(t, a, m, there[d.below(len(there))])
			}
			if step%100 == 99 {
				agree(t, a, m)
			}
			agreeInSizes(t, a, m)
		}
	}
}

func TestManyClauses(t *testing.T) {
	const many = 1 << 18
	a := New()
	for id := 1; id <= many; id++ {
		if e := a.Add(id, clause{lits.Lit(id), lits.Lit(-id)}); e != api.OK {
			t.Fatal(id, e)
		}
	}
	for id := 1; id <= many; id++ {
		if id%16 != 3 {
			a.Delete(id)
		}
	}
	if a.Count() != many/16 || a.Used() != many/8 || a.Held() > 2*a.Used()+Slack || a.Last() != many {
		t.Error(a.Count(), a.Used(), a.Held(), a.Last())
	}
	next := 3
	for id, c := range a.All() {
		if id != next || !slices.Equal(c, clause{lits.Lit(id), lits.Lit(-id)}) {
			t.Fatal(next, id, c)
		}
		next += 16
	}
	if next != many+3 {
		t.Error(next)
	}
}

// What holds for all methods: what is no arena, errors, and memory.

func TestNoArena(t *testing.T) {
	for i, a := range noArenas() {
		lists := append(noClauses(), nil, clause{1})
		for _, id := range append(noNumbers(), 1, 2, MaxID) {
			for _, c := range lists {
				if e := a.Add(id, c); e != api.ErrNil {
					t.Error(i, id, len(c), e)
				}
			}
			c, e := a.Get(id)
			n, f := a.Len(id)
			if a.Delete(id) != api.ErrNil || a.Has(id) || len(c) != 0 || e != api.ErrNil || n != 0 || f != api.ErrNil {
				t.Error(i, id, c, e, n, f)
			}
			for _, index := range []int{-1, 0, 1, math.MaxInt} {
				if l, e := a.Lit(id, index); l != 0 || e != api.ErrNil {
					t.Error(i, id, index, l, e)
				}
			}
		}
		if got := all(a); len(got) != 0 || a.Count() != 0 || a.Used() != 0 || a.Held() != 0 || a.Last() != 0 {
			t.Error(i, got, a.Count(), a.Used(), a.Held(), a.Last())
		}
	}
}

func TestWithAnErrorNothingChanges(t *testing.T) {
	a, m := filled(t, 6, 20)
	remove(t, a, m, 2)
	held := a.Held()
	for i, call := range []func() api.Errno{
		func() api.Errno { return a.Add(7, clause{1, 0}) },
		func() api.Errno { return a.Add(6, clause{1}) },
		func() api.Errno { return a.Add(2, clause{1}) },
		func() api.Errno { return a.Add(MaxID+1, clause{1}) },
		func() api.Errno { return a.Delete(2) },
		func() api.Errno { return a.Delete(7) },
		func() api.Errno { return a.Delete(-1) },
		func() api.Errno { _, e := a.Get(2); return e },
		func() api.Errno { _, e := a.Len(7); return e },
		func() api.Errno { _, e := a.Lit(2, 0); return e },
		func() api.Errno { _, e := a.Lit(1, 20); return e },
	} {
		if call() == api.OK || a.Held() != held {
			t.Error(i, a.Held())
		}
		agree(t, a, m)
	}
	if e := a.Add(7, clause{1}); e != api.OK {
		t.Error(e)
	}
}

func TestClausesAreNeitherModifiedNorKept(t *testing.T) {
	for _, size := range []int{0, 1, 3, 40} {
		a, m := New(), newModel()
		for id := 1; id <= 4; id++ {
			// Behind the clause there is room with other numbers.
			list := append(from(10*id, size), 77, 78, 79)
			was := slices.Clone(list)
			c := list[:size]
			a.Add(id, c)
			m.add(id, c)
			agree(t, a, m)
			a.Add(id, c)
			a.Add(id+1, append(c, 0)[:size+1]) // no clause: it ends with 0
			was[size] = 0
			if !slices.Equal(list, was) {
				t.Error(size, id, list)
			}
			for i := range list {
				list[i] = -5
			}
			agree(t, a, m)
		}
		remove(t, a, m, 1)
		remove(t, a, m, 3)
		agree(t, a, m)
	}
}

func TestResultsShareNoMemory(t *testing.T) {
	for _, size := range []int{0, 1, 3, 40} {
		a, m := filled(t, 5, size)
		var results []clause
		gather := func() {
			for _, p := range all(a) {
				one, _ := a.Get(p.id)
				two, _ := a.Get(p.id)
				results = append(results, p.c, one, two)
			}
		}
		gather()
		remove(t, a, m, 2)
		remove(t, a, m, 4)
		gather()
		a.Add(6, from(1, size))
		m.add(6, from(1, size))
		gather()
		// Each one is overwritten, with the room behind it: no other one, nor the arena, may change by it.
		for i, c := range results {
			for j := range c[:cap(c)] {
				c[:cap(c)][j] = lits.Lit(-1 - i)
			}
		}
		for i, c := range results {
			for _, l := range c[:cap(c)] {
				if l != lits.Lit(-1-i) {
					t.Fatal(size, i, l)
				}
			}
		}
		agree(t, a, m)
	}
}

func TestReadingChangesNothing(t *testing.T) {
	a, m := filled(t, 8, 10)
	remove(t, a, m, 3)
	held := a.Held()
	for range 3 {
		agree(t, a, m)
		if a.Held() != held {
			t.Error(a.Held(), held)
		}
	}
}
