package lratext

import (
	"math"
	"regexp"
	"slices"
	"strconv"
	"strings"
	"testing"

	"salvor/api"
	"salvor/clauses"
	"salvor/lits"
)

type clause = clauses.Clause

// add returns a step that adds a clause, with some hints.
func add(id int, c clause, hints ...int) Step { return Step{ID: id, Lits: c, Hints: hints} }

// del returns a step that takes clauses away.
func del(id int, hints ...int) Step { return Step{Delete: true, ID: id, Hints: hints} }

// text returns lines, each ended by a line feed.
func text(lines ...string) string { return strings.Join(append(lines, ""), "\n") }

// ones returns the clause that has the literal 1 so many times.
func ones(times int) clause { return slices.Repeat(clause{1}, times) }

// threes returns the hint 3 so many times.
func threes(times int) []int { return slices.Repeat([]int{3}, times) }

// equal reports whether two lists are equal, field by field.
func equal(a, b []Step) bool {
	if len(a) != len(b) {
		return false
	}
	for i := range a {
		if !isStep(a[i], b[i]) {
			return false
		}
	}
	return true
}

func isStep(s, t Step) bool {
	if s.Delete != t.Delete || s.ID != t.ID || len(s.Lits) != len(t.Lits) || len(s.Hints) != len(t.Hints) {
		return false
	}
	for i := range s.Lits {
		if s.Lits[i] != t.Lits[i] {
			return false
		}
	}
	for i := range s.Hints {
		if s.Hints[i] != t.Hints[i] {
			return false
		}
	}
	return true
}

// isZero reports whether a step is the zero value.
func isZero(s Step) bool { return !s.Delete && s.ID == 0 && s.Lits == nil && s.Hints == nil }

// isLine checks that a step has a line, and that the line is read as this step.
func isLine(t *testing.T, s Step, want string) {
	t.Helper()
	if line, e := Line(s); line != want || e != api.OK {
		t.Errorf("Line of the step %d: %.200q, %d, but not %.200q", s.ID, line, e, want)
	}
	if p, e := Parse(want); !isStep(p, s) || e != api.OK {
		t.Errorf("Parse of %.200q: %v, %d, with %d literals and %d hints, and %d", want, p.Delete, p.ID, len(p.Lits), len(p.Hints), e)
	}
}

// noLine checks that a line is that of no step, alone or in a text.
func noLine(t *testing.T, line string) {
	t.Helper()
	if s, e := Parse(line); !isZero(s) || e != ErrText {
		t.Errorf("Parse of %.200q: %v, %d, with %d literals and %d hints, and %d", line, s.Delete, s.ID, len(s.Lits), len(s.Hints), e)
	}
}

// reads checks what Read says of a text.
func reads(t *testing.T, s string, want []Step) {
	t.Helper()
	if l, line, e := Read(s); !equal(l, want) || line != 0 || e != api.OK {
		t.Errorf("Read of %.200q: %d steps, %d, %d", s, len(l), line, e)
	}
}

// fails checks that Read has an error for a text at a line, and nothing else.
func fails(t *testing.T, s string, line int, e api.Errno) {
	t.Helper()
	if l, at, got := Read(s); l != nil || at != line || got != e {
		t.Errorf("Read of %.200q: %d steps, %d at %d, but not %d at %d", s, len(l), got, at, e, line)
	}
}

// isProof checks what Check and Write say of a list that is a proof.
func isProof(t *testing.T, l []Step, want string) {
	t.Helper()
	if i, e := Check(l); i != -1 || e != api.OK {
		t.Errorf("Check of %d steps: %d, %d", len(l), i, e)
	}
	if s, i, e := Write(l); s != want || i != -1 || e != api.OK {
		t.Errorf("Write of %d steps: %d bytes, %.200q, %d, %d, but not %d bytes, %.200q", len(l), len(s), s, i, e, len(want), want)
	}
}

// noProof checks that Check and Write have an error for a list at an index, and nothing else.
func noProof(t *testing.T, l []Step, index int, e api.Errno) {
	t.Helper()
	if i, got := Check(l); i != index || got != e {
		t.Errorf("Check of %d steps: %d at %d, but not %d at %d", len(l), got, i, e, index)
	}
	if s, i, got := Write(l); s != "" || i != index || got != e {
		t.Errorf("Write of %d steps: %d bytes, %d at %d, but not %d at %d", len(l), len(s), got, i, e, index)
	}
}

// What follows says the same a second time, by the words of the chapter, to hold the package against.

// modelRight reports whether a step is right.
func modelRight(s Step) bool {
	if s.ID < 0 || s.ID > 1073741824 || s.ID == 0 && !s.Delete || len(s.Lits) > 4096 || len(s.Hints) > 65536 || s.Delete && len(s.Lits) != 0 {
		return false
	}
	for _, l := range s.Lits {
		if l == 0 || l < -1048576 || l > 1048576 {
			return false
		}
	}
	for _, h := range s.Hints {
		if h == 0 || h < -1073741824 || h > 1073741824 || h < 0 && s.Delete {
			return false
		}
	}
	return true
}

// modelFollows reports whether a step may come behind others.
func modelFollows(before []Step, s Step) bool {
	for _, b := range before {
		if b.ID > s.ID || b.ID == s.ID && !s.Delete {
			return false
		}
	}
	return true
}

// modelCheck returns the index of the first step that is wrong.
func modelCheck(l []Step) (int, api.Errno) {
	for i, s := range l {
		if !modelRight(s) || !modelFollows(l[:i], s) {
			return i, ErrStep
		}
	}
	return -1, api.OK
}

// modelLine returns the line of a step that is right.
func modelLine(s Step) string {
	line := strconv.Itoa(s.ID)
	if s.Delete {
		line += " d"
	}
	for _, l := range s.Lits {
		line += " " + strconv.Itoa(int(l))
	}
	if !s.Delete {
		line += " 0"
	}
	for _, h := range s.Hints {
		line += " " + strconv.Itoa(h)
	}
	return line + " 0"
}

// modelText returns the text of a proof.
func modelText(l []Step) string {
	s := ""
	for _, x := range l {
		s += modelLine(x) + "\n"
	}
	return s
}

var (
	additions = regexp.MustCompile(`\A([1-9][0-9]*)((?: -?[1-9][0-9]*)*) 0((?: -?[1-9][0-9]*)*) 0\z`)
	deletions = regexp.MustCompile(`\A(0|[1-9][0-9]*) d()((?: [1-9][0-9]*)*) 0\z`)
	passed    = regexp.MustCompile(`(?s)\A(c|c .*|)\z`)
)

// modelParse returns the step with a line, if there is one.
func modelParse(line string) (Step, bool) {
	s := Step{}
	m := additions.FindStringSubmatch(line)
	if m == nil {
		m = deletions.FindStringSubmatch(line)
		s.Delete = true
	}
	if m == nil {
		return Step{}, false
	}
	fits := true
	number := func(word string) int {
		n, e := strconv.Atoi(word)
		fits = fits && e == nil
		return n
	}
	s.ID = number(m[1])
	for _, word := range strings.Fields(m[2]) {
		s.Lits = append(s.Lits, lits.Lit(number(word)))
	}
	for _, word := range strings.Fields(m[3]) {
		s.Hints = append(s.Hints, number(word))
	}
	if !fits || !modelRight(s) {
		return Step{}, false
	}
	return s, true
}

// modelRead returns the proof with a text, or the line of an error.
func modelRead(s string) ([]Step, int, api.Errno) {
	if len(s) > 16777216 {
		return nil, 0, api.ErrLong
	}
	var l []Step
	for i, line := range strings.Split(s, "\n") {
		if passed.MatchString(line) {
			continue
		}
		step, ok := modelParse(line)
		if !ok {
			return nil, i + 1, ErrText
		}
		if !modelFollows(l, step) {
			return nil, i + 1, ErrStep
		}
		l = append(l, step)
	}
	return l, 0, api.OK
}

// isAsTheModel checks what Read says of a text of few steps, and Parse of each of its lines, against the second reader.
func isAsTheModel(t *testing.T, s string) {
	t.Helper()
	if want, line, e := modelRead(s); e == api.OK {
		reads(t, s, want)
	} else {
		fails(t, s, line, e)
	}
	for _, line := range strings.Split(s, "\n") {
		if want, ok := modelParse(line); ok {
			isLine(t, want, line)
		} else {
			noLine(t, line)
		}
	}
	if t.Failed() {
		t.FailNow()
	}
}

// draws are numbers that follow no plain rule, but are the same in each run of the tests.
type draws uint64

func (d *draws) below(bound int) int {
	*d = *d*6364136223846793005 + 1442695040888963407
	return int(uint64(*d)>>33) % bound
}

// upTo draws a number from 1 to a bound; small and great ones are drawn more often.
func (d *draws) upTo(bound int) int {
	return []int{1 + d.below(min(9, bound)), 1 + d.below(bound), bound - d.below(min(9, bound))}[d.below(3)]
}

// proof draws a proof.
func (d *draws) proof() []Step {
	var l []Step
	last := []int{0, 0, d.below(1000), MaxID - 20}[d.below(4)]
	for range d.below(8) {
		s := Step{Delete: d.below(3) == 0}
		if s.Delete {
			last += d.below(2) * d.below(3)
		} else {
			last += 1 + d.below(2)
			for range d.below(5) {
				s.Lits = append(s.Lits, lits.Lit(d.upTo(lits.MaxVar)*(1-2*d.below(2))))
			}
		}
		s.ID = last
		for range d.below(5) {
			h := d.upTo(MaxID)
			if !s.Delete && d.below(3) == 0 {
				h = -h
			}
			s.Hints = append(s.Hints, h)
		}
		l = append(l, s)
	}
	return l
}

// proofs are some, short and long ones.
func proofs() [][]Step {
	l := [][]Step{
		nil, {}, {add(1, nil)}, {del(0)}, {del(0), del(0), add(1, nil)}, {del(0, 1, 2), add(1, clause{1}), del(1)}, {del(MaxID, MaxID), del(MaxID)}, {add(MaxID, clause{lits.MaxVar, -lits.MaxVar}, MaxID, -MaxID), del(MaxID)},
		{add(5, clause{1, -2}, 3, 4), add(6, nil, 5, 2), add(7, clause{-1}, -2, 6), del(7, 1, 3)}, {add(2, clause{}), {ID: 3, Lits: clause{}, Hints: []int{}}}, {add(4, clause{1, 1, -1, 1}, 9, 9, -9, 4)},
		{add(9, nil, 9), add(10, nil, 10), add(99, nil), add(100, nil), del(1000), add(1001, nil)}, {del(3), del(3, 1), del(5, 2, 2), add(6, nil), del(6), del(6)},
	}
	d := draws(7)
	for range 400 {
		l = append(l, d.proof())
	}
	return l
}

// steps are right ones, with their lines.
func steps() map[string]Step {
	return map[string]Step{
		"5 1 -2 0 3 4 0": add(5, clause{1, -2}, 3, 4), "6 0 5 2 0": add(6, nil, 5, 2), "7 -1 0 -2 6 0": add(7, clause{-1}, -2, 6), "7 d 1 3 0": del(7, 1, 3),
		"1 0 0": add(1, nil), "1 1 0 0": add(1, clause{1}), "1 0 1 0": add(1, nil, 1), "1 -1 0 -1 0": add(1, clause{-1}, -1), "2 -1 1 1 -1 0 2 2 -2 2 0": add(2, clause{-1, 1, 1, -1}, 2, 2, -2, 2),
		"0 d 0": del(0), "1 d 0": del(1), "0 d 1 0": del(0, 1), "3 d 9 1 9 0": del(3, 9, 1, 9), "1073741824 d 1073741824 0": del(MaxID, MaxID), "1073741824 d 0": del(MaxID), "0 d 1073741824 1 0": del(0, MaxID, 1),
		"1073741824 0 0": add(MaxID, nil), "1073741823 0 1073741824 -1073741824 0": add(MaxID-1, nil, MaxID, -MaxID), "10 1048576 -1048576 0 -10 0": add(10, clause{lits.MaxVar, -lits.MaxVar}, -10),
		"10 10 -10 0 10 0": add(10, clause{10, -10}, 10), "100 200 0 300 -400 500 0": add(100, clause{200}, 300, -400, 500), "100 d 200 300 0": del(100, 200, 300), "4 1 2 3 0 0": add(4, clause{1, 2, 3}),
	}
}

// noLits are numbers that are no literals.
func noLits() []int {
	return []int{0, lits.MaxVar + 1, -lits.MaxVar - 1, MaxID, 1 << 32, 1<<32 + 1, -1<<32 - 1, math.MaxInt32, math.MinInt32, math.MaxInt, math.MinInt}
}

// noIDs are numbers of no clause, and of no candidate.
func noIDs() []int {
	return []int{0, MaxID + 1, -MaxID - 1, 2 * MaxID, -2 * MaxID, 1 << 32, 1<<32 + 1, -1<<32 - 1, math.MaxInt32, math.MinInt32, math.MaxInt, math.MinInt}
}

// wrong are steps that are not right, wherever they stand.
func wrong() []Step {
	l := []Step{
		{}, add(-1, nil), add(-MaxID, nil), add(-1, clause{1}, 1), del(-1), del(-MaxID, 1), add(5, clause{1, 0}), add(5, clause{0}), add(5, nil, 1, 0), del(5, 0), del(5, 1, 0),
		del(5, -1), del(5, 1, -2, 3), del(5, -MaxID), del(0, -1), {Delete: true, ID: 5, Lits: clause{1}}, {Delete: true, ID: 5, Lits: clause{-1, 2}, Hints: []int{1}}, {Delete: true, ID: 0, Lits: clause{1}}, {Delete: true, ID: 5, Lits: clause{0}},
		add(5, ones(clauses.MaxLits+1)), add(5, ones(2*clauses.MaxLits), 1), add(5, make(clause, clauses.MaxLits+1)), add(5, nil, threes(MaxHints+1)...), add(5, clause{1}, threes(2*MaxHints)...), del(5, threes(MaxHints+1)...),
		{Delete: true, ID: 5, Lits: ones(clauses.MaxLits + 1)},
	}
	for _, n := range noLits() {
		x := lits.Lit(n)
		l = append(l, add(5, clause{x}), add(5, clause{x, 1}, 1), add(5, clause{1, 2, x}, 1), add(5, clause{1, x, 2}), Step{Delete: true, ID: 5, Lits: clause{x}})
	}
	for _, n := range noIDs() {
		l = append(l, add(n, nil), add(n, clause{1}, 1), add(5, nil, n), add(5, clause{1}, n, 1), add(5, nil, 1, -2, n), del(5, n), del(5, 1, n), del(5, n, 2))
		if n != 0 {
			l = append(l, del(n), del(n, 1))
		}
	}
	return l
}

func TestConstants(t *testing.T) {
	if MaxSteps != 262144 || MaxID != 1073741824 || MaxHints != 65536 || MaxText != 16777216 || ErrStep != 70 || ErrText != 71 {
		t.Error(MaxSteps, MaxID, MaxHints, MaxText, ErrStep, ErrText)
	}
}

func TestExamples(t *testing.T) {
	l := []Step{add(5, clause{1, -2}, 3, 4), add(6, nil, 5, 2), add(7, clause{-1}, -2, 6), del(7, 1, 3)}
	lines := []string{"5 1 -2 0 3 4 0", "6 0 5 2 0", "7 -1 0 -2 6 0", "7 d 1 3 0"}
	for i, s := range l {
		isLine(t, s, lines[i])
	}
	isProof(t, l, text(lines...))
	reads(t, text(lines...), l)
	fails(t, "5 0 0\n5 0 0\n", 2, ErrStep)
	for _, line := range []string{"05 0 0", "5 1 0 1", "5 1 0 1 0 0", "5 d -1 0"} {
		noLine(t, line)
		fails(t, line, 1, ErrText)
	}
}

// P7.1

func TestRight(t *testing.T) {
	for line, s := range steps() {
		if !Right(s) {
			t.Error(line)
		}
	}
	for i, s := range []Step{add(5, ones(clauses.MaxLits), threes(MaxHints)...), add(1, ones(clauses.MaxLits)), add(1, nil, slices.Repeat([]int{-MaxID}, MaxHints)...), del(5, threes(MaxHints)...), {ID: 1, Lits: clause{}, Hints: []int{}}, {Delete: true, Lits: clause{}, Hints: []int{}}} {
		if !Right(s) {
			t.Error(i)
		}
	}
	for i, s := range wrong() {
		if Right(s) {
			t.Errorf("%d: %v, %d, with %d literals and %d hints", i, s.Delete, s.ID, len(s.Lits), len(s.Hints))
		}
	}
}

func TestRightOfNumbersNearTheBounds(t *testing.T) {
	near := []int{0, lits.MaxVar, -lits.MaxVar, MaxID, -MaxID, 1 << 32, math.MaxInt - 2, math.MinInt + 2}
	for _, n := range near {
		for m := range 5 {
			m += n - 2
			for _, s := range []Step{add(m, nil), del(m), add(1, clause{lits.Lit(m)}), add(1, clause{2, lits.Lit(m)}), add(1, nil, m), add(1, nil, 2, m), del(1, m), del(1, 2, m), {Delete: true, ID: 1, Lits: clause{lits.Lit(m)}}} {
				if Right(s) != modelRight(s) {
					t.Error(s)
				}
			}
		}
	}
}

func TestCheckOfProofs(t *testing.T) {
	for _, l := range proofs() {
		isProof(t, l, modelText(l))
	}
}

func TestCheckOfWrongSteps(t *testing.T) {
	for _, s := range wrong() {
		noProof(t, []Step{s}, 0, ErrStep)
		noProof(t, []Step{s, s, add(6, nil)}, 0, ErrStep)
		noProof(t, []Step{add(1, nil), del(1), s, {}}, 2, ErrStep)
		noProof(t, []Step{add(1, nil), add(1, nil), s}, 1, ErrStep)
		noProof(t, []Step{del(0), s}, 1, ErrStep)
	}
}

// TestCheckOfOrders holds all lists of up to five steps, some of them wrong ones, against the words of the chapter.
func TestCheckOfOrders(t *testing.T) {
	kinds := []Step{add(1, nil), add(2, clause{1}), add(3, nil, 1), del(0), del(1, 1), del(2), del(3, 1), add(0, nil)}
	lists := [][]Step{nil}
	for first := 0; len(lists[first]) < 5; first++ {
		for _, k := range kinds {
			lists = append(lists, append(slices.Clone(lists[first]), k))
		}
	}
	for _, l := range lists {
		index, e := modelCheck(l)
		if e == api.OK {
			isProof(t, l, modelText(l))
			reads(t, modelText(l), l)
		} else {
			noProof(t, l, index, e)
		}
		if t.Failed() {
			t.FailNow()
		}
	}
}

func TestWhatMayComeBehindADelete(t *testing.T) {
	for _, c := range []struct {
		l     []Step
		index int
	}{
		{[]Step{del(0), add(1, nil)}, -1}, {[]Step{del(0), add(0, nil)}, 1}, {[]Step{del(4), add(4, nil)}, 1}, {[]Step{del(4), add(3, nil)}, 1}, {[]Step{del(4), add(5, nil)}, -1}, {[]Step{del(4), del(4), add(5, nil)}, -1},
		{[]Step{add(4, nil), del(4), del(4), add(5, nil)}, -1}, {[]Step{add(4, nil), del(3)}, 1}, {[]Step{add(4, nil), del(0)}, 1}, {[]Step{add(4, nil), del(5), add(5, nil)}, 2}, {[]Step{add(4, nil), del(5), del(4)}, 2}, {[]Step{add(4, nil), del(5), add(6, nil), del(6)}, -1},
		{[]Step{add(4, nil), del(4), add(4, nil)}, 2}, {[]Step{del(MaxID), add(MaxID, nil)}, 1}, {[]Step{del(MaxID - 1), add(MaxID, nil), del(MaxID), del(MaxID)}, -1}, {[]Step{del(2), del(1)}, 1}, {[]Step{del(0), del(0), del(1), del(0)}, 3},
	} {
		if c.index == -1 {
			isProof(t, c.l, modelText(c.l))
		} else {
			noProof(t, c.l, c.index, ErrStep)
			fails(t, strings.ReplaceAll(modelText(c.l), "\n", "\n\n"), 2*c.index+1, map[bool]api.Errno{false: ErrStep, true: ErrText}[c.l[c.index].ID == 0 && !c.l[c.index].Delete])
		}
	}
}

// many returns a proof of so many steps.
func many(steps int) []Step {
	l := make([]Step, steps)
	for i := range l {
		l[i] = add(i+1, nil)
	}
	return l
}

func TestAsManyStepsAsThereMayBe(t *testing.T) {
	l := many(MaxSteps)
	s, i, e := Write(l)
	if lines := strings.Count(s, "\n"); lines != MaxSteps || i != -1 || e != api.OK {
		t.Error(lines, i, e)
	}
	isProof(t, l, s)
	reads(t, s, l)
	reads(t, strings.TrimSuffix(s, "\n")+"\n\nc\n", l)
	noProof(t, append(l, add(MaxSteps+1, nil)), -1, api.ErrMany)
	noProof(t, append(l, del(MaxSteps)), -1, api.ErrMany)
	noProof(t, append(l, Step{}), -1, api.ErrMany)
	noProof(t, make([]Step, MaxSteps+1), -1, api.ErrMany)
	noProof(t, slices.Repeat([]Step{add(1, ones(clauses.MaxLits))}, 2*MaxSteps), -1, api.ErrMany)
	l[MaxSteps-1].ID--
	noProof(t, l, MaxSteps-1, ErrStep)
	dels := slices.Repeat([]Step{del(0)}, MaxSteps)
	isProof(t, dels, strings.Repeat("0 d 0\n", MaxSteps))
	noProof(t, append(dels, del(0)), -1, api.ErrMany)
}

func TestSame(t *testing.T) {
	l := [][]Step{
		nil, {{}}, {{}, {}}, {add(1, nil)}, {add(2, nil)}, {del(1)}, {del(0)}, {add(1, clause{1})}, {add(1, clause{-1})}, {add(1, clause{1, 2})}, {add(1, clause{2, 1})}, {add(1, clause{1, 1})}, {add(1, clause{0})}, {add(1, clause{1}, 1)}, {add(1, nil, 1)}, {add(1, nil, -1)}, {add(1, nil, 1, 2)}, {add(1, nil, 2, 1)}, {add(1, nil, 1, 1)}, {add(1, nil, 0)},
		{add(1, nil), add(1, nil)}, {add(1, nil), add(2, nil)}, {add(2, nil), add(1, nil)}, {add(1, nil), del(1)}, {add(1, clause{1}), add(2, nil)}, {add(1, nil), add(2, clause{1})}, {add(1, nil), add(2, nil, 1)}, {del(1, 1)}, {del(1, 2)}, {{Delete: true, ID: 1, Lits: clause{1}}}, {add(math.MinInt, clause{math.MaxInt}, math.MinInt)}, {add(math.MinInt, clause{math.MaxInt}, math.MaxInt)},
	}
	for i, a := range l {
		for j, b := range l {
			if Same(a, b) != (i == j) {
				t.Error(a, b)
			}
		}
	}
	some := proofs()
	for i, a := range some {
		for j, b := range some {
			if Same(a, b) != equal(a, b) || i == j && !Same(a, b) {
				t.Fatal(a, b)
			}
		}
	}
	if a, b := many(MaxSteps+5), many(MaxSteps+5); !Same(a, b) || Same(a, b[:MaxSteps+4]) || Same(a, append(b[:MaxSteps+4:MaxSteps+4], Step{})) {
		t.Error("lists that are too long")
	}
}

func TestNilAndEmptyListsAreTheSame(t *testing.T) {
	if !Same(nil, []Step{}) || !Same([]Step{}, nil) || Same(nil, []Step{{}}) || Same([]Step{{}}, []Step{}) {
		t.Error("lists")
	}
	if a, b := []Step{{ID: 1}}, []Step{{ID: 1, Lits: clause{}, Hints: []int{}}}; !Same(a, b) || !Same(b, a) {
		t.Error("what is in them")
	}
	isProof(t, nil, "")
	isProof(t, []Step{}, "")
	isLine(t, Step{ID: 1, Lits: clause{}, Hints: []int{}}, "1 0 0")
	isLine(t, Step{Delete: true, Lits: clause{}, Hints: []int{}}, "0 d 0")
}

func TestCopy(t *testing.T) {
	for _, l := range append(proofs(), wrong(), many(MaxSteps+1)) {
		if c := Copy(l); !equal(c, l) || !Same(c, l) {
			t.Fatal(len(l), len(c))
		}
	}
}

// P7.2

func TestLines(t *testing.T) {
	for line, s := range steps() {
		isLine(t, s, line)
	}
	for _, l := range proofs() {
		for _, s := range l {
			isLine(t, s, modelLine(s))
		}
	}
	isLine(t, add(5, ones(clauses.MaxLits), threes(MaxHints)...), "5 "+strings.Repeat("1 ", clauses.MaxLits)+"0 "+strings.Repeat("3 ", MaxHints)+"0")
	isLine(t, add(5, nil, threes(MaxHints)...), "5 0 "+strings.Repeat("3 ", MaxHints)+"0")
	isLine(t, del(5, threes(MaxHints)...), "5 d "+strings.Repeat("3 ", MaxHints)+"0")
}

func TestLineOfWrongSteps(t *testing.T) {
	for i, s := range wrong() {
		if line, e := Line(s); line != "" || e != ErrStep {
			t.Error(i, line, e)
		}
	}
}

// noNumbers are words that are no numbers, nor those that have a 0 as their place may want it.
func noNumbers() []string {
	return []string{
		"x", "-", "--1", "+1", "+0", "+", "-+1", "1-", "1-1", "00", "01", "-01", "001", "-0", "0-", "0x1", "0b1", "0o1", "1e0", "1.0", "1_0", "1,", "one", "D", "dd", "d1", "-d",
		"c", "%", ".", "1\t", "\t1", "\t", "1\r", "0\r", "\r", "\v", "\f", "0\x00", "\x00", "\x001", "1\xff", "\xff", "\xc2\xa0", "\xa0", "1\u00a0", "\u2028", "\u0661", "\uff11", "\u22121", "",
		"1073741825", "-1073741825", "9999999999", "4294967297", "-4294967297", "9223372036854775807", "-9223372036854775808", "9223372036854775808", "18446744073709551617", "18446744073709551616",
		"1" + strings.Repeat("0", 1000), strings.Repeat("1", 5000), strings.Repeat("0", 5000), "-" + strings.Repeat("0", 64) + "1",
	}
}

func TestParseOfWordsThatAreNoNumbers(t *testing.T) {
	for _, w := range noNumbers() {
		for _, line := range []string{
			w, w + " 0 0", w + " 1 0 1 0", w + " d 0", w + " d 1 0", "5 " + w, "5 " + w + " 0", "5 " + w + " 0 0", "5 " + w + " 1 0 1 0", "5 1 " + w + " 0 1 0", "5 1 " + w + " 1 0", "5 1 0 " + w + " 0", "5 1 0 1 " + w + " 0", "5 1 0 1 " + w, "5 0 " + w,
			"5 d " + w + " 0", "5 d 1 " + w + " 0", "5 d 1 " + w, "5 d " + w, "5 1 0 1 0 " + w, "5 d 1 0 " + w, "5 1 0 0" + w + "1", w + " 5 0 0", w + " 5 d 0",
		} {
			noLine(t, line)
		}
	}
	for _, n := range noLits() {
		if n != 0 {
			noLine(t, "5 "+strconv.Itoa(n)+" 0 0")
			noLine(t, "5 1 "+strconv.Itoa(n)+" 0 1 0")
		}
	}
}

func TestParseOfLinesThatEndTooEarlyOrGoOn(t *testing.T) {
	for _, line := range []string{
		"", " ", "0", "1", "5", "d", "0 d", "5 d", "5 d 1", "5 d 1 2", "5 0", "5 1", "5 1 0", "5 1 0 1", "5 1 2", "5 1 2 0 1 -2", "5 1 0 1 0 0", "5 1 0 1 0 1", "5 0 0 0", "5 0 0 1 0", "5 0 0 5 0 0", "5 d 0 0", "5 d 1 0 0", "5 d 1 0 2 0", "5 d 0 1 0", "5 d 1 0 d",
		"0 0", "0 0 0", "0 1 0 1 0", "0 d 0 0", "0 d", "-1 0 0", "-1 d 0", "-0 d 0", "00 d 0", "d 0", "d 1 0", "d 5 0", "5 d -1 0", "5 d 1 -1 0", "0 d -1 0", "5 1 d 0", "5 d d 0", "5 d 1 d 0", "5 1 0 d 0", "5 0 d 0", "5 0 0 d", "5 1 d 1 0", "5 d 1 0 d 0", "5 d1 0", "5d 1 0", "5 d 10 ", "5 d0", "d 5 d 0",
		"5 1 0 1 0 ", " 5 1 0 1 0", "5  1 0 1 0", "5 1  0 1 0", "5 1 0  1 0", "5 1 0 1  0", "5 d 1 0 ", " 5 d 1 0", "5  d 1 0", "5 d  1 0", "5 d 1  0", "5 0 0 ", "5  0 0", "5 0  0", "  5 0 0", "5 0 0  ", "5 d  0", "5  d 0",
		"5\t0 0", "5 0\t0", "5 0 0\t", "\t5 0 0", "5 0 0\r", "5\td 0", "5 d\t0", "5 d 0\r", "5 0 0\n", "\n5 0 0", "5 0\n0", "5 d 0\n", "5\n0 0", "5 0 0\n6 0 0", "c", "c ", "c 5 0 0", "c5 0 0", "5 0 0 c", "5 D 1 0", "5 D 0",
	} {
		noLine(t, line)
		if _, ok := modelParse(line); ok {
			t.Errorf("the model reads %q", line)
		}
	}
}

func TestParseOfTooManyLiteralsOrHints(t *testing.T) {
	for _, line := range []string{
		"5 " + strings.Repeat("1 ", clauses.MaxLits+1) + "0 0", "5 " + strings.Repeat("1 ", clauses.MaxLits+1) + "0 3 0", "5 0 " + strings.Repeat("3 ", MaxHints+1) + "0", "5 1 0 " + strings.Repeat("-3 ", MaxHints+1) + "0", "5 d " + strings.Repeat("3 ", MaxHints+1) + "0",
		"5 " + strings.Repeat("1 ", clauses.MaxLits+1), "5 " + strings.Repeat("1 ", 1<<22) + "0 0", "5 0 " + strings.Repeat("1 ", 1<<22) + "0", "5 d " + strings.Repeat("1 ", 1<<22) + "0", strings.Repeat("5 0 0 ", 1<<20), strings.Repeat("5 d 0 ", 1<<20), strings.Repeat("0 ", 1<<22), "5" + strings.Repeat(" ", 1<<23), "5 d" + strings.Repeat(" ", 1<<23), strings.Repeat("5", 1<<23), strings.Repeat(" d ", 1<<22),
	} {
		noLine(t, line)
		fails(t, line, 1, ErrText)
	}
}

// near yields all texts that come of one if a byte is put into it, taken away, or becomes another one.
func near(s string, yield func(string)) {
	for i := range len(s) + 1 {
		for b := range 256 {
			yield(s[:i] + string([]byte{byte(b)}) + s[i:])
			if i < len(s) {
				yield(s[:i] + string([]byte{byte(b)}) + s[i+1:])
			}
		}
		if i < len(s) {
			yield(s[:i] + s[i+1:])
		}
	}
}

func TestLinesNearRightOnes(t *testing.T) {
	for line := range steps() {
		near(line, func(s string) { isAsTheModel(t, s) })
	}
}

// texts returns all texts of so many pieces at most.
func texts(pieces []string, most int) []string {
	l := []string{""}
	begin := 0
	for range most {
		end := len(l)
		for _, s := range l[begin:end] {
			for _, p := range pieces {
				l = append(l, s+p)
			}
		}
		begin = end
	}
	return l
}

// TestAllShortLines holds all lines of a few pieces against the second reader.
func TestAllShortLines(t *testing.T) {
	for _, s := range texts([]string{" ", "0", "1", "-", "d"}, 7) {
		isAsTheModel(t, s)
	}
	for _, s := range texts([]string{" 0", " 1", " -2", " d", "7"}, 6) {
		isAsTheModel(t, s)
		isAsTheModel(t, "3"+s)
	}
}

// P7.3

func TestReadOfRightTexts(t *testing.T) {
	one := []Step{add(5, nil)}
	for _, c := range []struct {
		s    string
		want []Step
	}{
		{"", nil}, {"\n", nil}, {"\n\n\n", nil}, {"c", nil}, {"c\n", nil}, {"c ", nil}, {"c x\n\nc\n", nil}, {strings.Repeat("\n", MaxText), nil}, {strings.Repeat("c\n", MaxText/2), nil}, {"c " + strings.Repeat("x", MaxText-2), nil},
		{"5 0 0", one}, {"5 0 0\n", one}, {"5 0 0\n\n", one}, {"\n5 0 0", one}, {"\n\n5 0 0\n\n\n", one}, {"c\n5 0 0\nc", one}, {"c 4 0 0\n5 0 0\nc 6 0 0\n", one}, {"c \t\r\x00\xff\n5 0 0\nc  \t0 x", one}, {"c c\nc d\n5 0 0\nc ", one},
		{"5 0 0\n6 0 0", []Step{add(5, nil), add(6, nil)}}, {"5 0 0\n\nc 5 0 0\n6 0 0\n", []Step{add(5, nil), add(6, nil)}}, {"0 d 0\n0 d 1 0\n1 d 0\n1 d 0\n2 0 0", []Step{del(0), del(0, 1), del(1), del(1), add(2, nil)}},
		{"5 1 -2 0 3 4 0\n6 0 5 2 0\n7 -1 0 -2 6 0\n7 d 1 3 0", []Step{add(5, clause{1, -2}, 3, 4), add(6, nil, 5, 2), add(7, clause{-1}, -2, 6), del(7, 1, 3)}},
		{"1 " + strings.Repeat("1 ", clauses.MaxLits) + "0 " + strings.Repeat("3 ", MaxHints) + "0\n1 d " + strings.Repeat("3 ", MaxHints) + "0", []Step{add(1, ones(clauses.MaxLits), threes(MaxHints)...), del(1, threes(MaxHints)...)}},
	} {
		reads(t, c.s, c.want)
	}
}

// inTexts checks that a line is an error wherever it stands in a text.
func inTexts(t *testing.T, line string, e api.Errno) {
	t.Helper()
	fails(t, "5 0 0\n"+line, 2, e)
	fails(t, "5 0 0\n"+line+"\n", 2, e)
	fails(t, "\nc\n5 0 0\nc x\n\n"+line+"\n6 0 0\n", 6, e)
	fails(t, "5 0 0\n"+line+"\nx\n5 0 0\n", 2, e)
}

func TestReadOfLinesOfNoStep(t *testing.T) {
	for _, line := range []string{
		" ", "  ", "\t", "\r", "\x00", "\xff", "x", "0", "5", "d", "6 0", "6 1 0", "6 0 0 0", "6 0 0 ", " 6 0 0", "6  0 0", "6 0 0\r", "6 0 0\t", "06 0 0", "+6 0 0", "6 0 00", "6 0 -0", "6 -0 0", "-6 0 0", "0 0 0", "6 d", "6 d -1 0", "6 d 0 0", "6 d 01 0", "5 1 d 0", "1073741825 0 0", "6 1048577 0 0", "6 0 1073741825 0", "1073741825 d 0",
		"cc", "c\t", "c\r", "c\x00", "cx", "c5 0 0", " c", " c x", "C", "C x", "# x", "% x", "p cnf 1 1", "\ufeff6 0 0", "6 0 0 c x",
		// What cannot stand there is no step at all, first.
		"5 0", "4 0 0 ", "05 0 0", "4 d -1 0",
	} {
		inTexts(t, line, ErrText)
	}
	for b := range 256 {
		if line := string([]byte{'c', byte(b)}); b != ' ' && b != '\n' {
			inTexts(t, line, ErrText)
			inTexts(t, line+" 6 0 0", ErrText)
			fails(t, line, 1, ErrText)
		}
	}
}

func TestReadOfStepsThatCannotStandThere(t *testing.T) {
	for _, line := range []string{"5 0 0", "4 0 0", "1 1 0 1 0", "4 d 0", "0 d 0", "1 d 5 0"} {
		inTexts(t, line, ErrStep)
	}
	for _, line := range []string{"6 0 0", "5 0 0", "6 d 0", "1 0 0"} {
		fails(t, "5 0 0\n5 d 0\n7 d 0\n\n"+line, 5, ErrStep)
	}
	fails(t, "7 d 0\n7 0 0", 2, ErrStep)
	fails(t, "1073741824 d 0\n1073741824 0 0", 2, ErrStep)
	fails(t, "1 d 0\n\n0 d 0", 3, ErrStep)
}

func TestReadOfTooManySteps(t *testing.T) {
	s := modelText(nil) + strings.Repeat("7 d 0\n", MaxSteps-1) + "8 0 0\n"
	for _, c := range []struct {
		behind string
		line   int
		e      api.Errno
	}{
		{"9 0 0", 1, api.ErrMany}, {"9 0 0\n", 1, api.ErrMany}, {"\n\nc x\n9 d 0\n", 4, api.ErrMany}, {"8 d 0\nx\n", 1, api.ErrMany}, {"x", 1, ErrText}, {"8 0 0", 1, ErrStep}, {"7 d 0", 1, ErrStep}, {"9 0 0 0", 1, ErrText}, {"8 0", 1, ErrText}, {" ", 1, ErrText}, {"c\n\n8 0 0\n9 0 0\n", 3, ErrStep},
	} {
		fails(t, s+c.behind, MaxSteps+c.line, c.e)
	}
	want := append(slices.Repeat([]Step{del(7)}, MaxSteps-1), add(8, nil))
	for _, behind := range []string{"", "\n", "c", "\n\nc 9 0 0\n"} {
		reads(t, s+behind, want)
		reads(t, "\nc\n\n"+s+behind, want)
	}
	fails(t, "\nc\n\n"+s+"9 0 0", MaxSteps+4, api.ErrMany)
	// It is the steps that count, not the lines.
	reads(t, strings.ReplaceAll(s[:6000], "\n", strings.Repeat("\n", 300))+"8 0 0", append(want[:1000:1000], add(8, nil)))
}

// TestTheBytesOfAText writes proofs of as many bytes as there may be, and of more.
func TestTheBytesOfAText(t *testing.T) {
	for bytes := MaxText - 3; bytes <= MaxText+3; bytes++ {
		l := long(bytes)
		if i, e := Check(l); i != -1 || e != api.OK {
			t.Fatal(i, e)
		}
		s, i, e := Write(l)
		switch {
		case bytes > MaxText:
			if s != "" || i != -1 || e != api.ErrLong {
				t.Error(bytes, len(s), i, e)
			}
		case len(s) != bytes || i != -1 || e != api.OK:
			t.Fatal(bytes, len(s), i, e)
		default:
			reads(t, s, l)
		}
	}
	if s, i, e := Write(long(2 * MaxText)); s != "" || i != -1 || e != api.ErrLong {
		t.Error(len(s), i, e)
	}
}

// long returns a proof whose text has so many bytes, which are at least 20000 and some.
func long(bytes int) []Step {
	var l []Step
	id := 1 << 29
	for bytes > 120000 {
		l = append(l, add(id, nil, threes(50000)...))
		id++
		bytes -= len("536870912 0 0\n") + 2*50000
	}
	left := bytes - len("536870912 0 0\n")
	s := add(id, nil, threes(left/2)...)
	if left%2 == 1 {
		s.Hints[0] = -3
	}
	return append(l, s)
}

func TestWriteOfFarTooLongProofs(t *testing.T) {
	l := slices.Repeat([]Step{del(MaxID, slices.Repeat([]int{MaxID}, MaxHints)...)}, 3000)
	if s, i, e := Write(l); s != "" || i != -1 || e != api.ErrLong {
		t.Error(len(s), i, e)
	}
	// A wrong step comes first, although it stands behind far too many bytes.
	noProof(t, append(l, add(MaxID, nil)), 3000, ErrStep)
}

func TestReadOfTooManyBytes(t *testing.T) {
	for _, c := range []struct {
		s    string
		want []Step
	}{{"5 0 0\n", []Step{add(5, nil)}}, {"5 0 0\nc ", []Step{add(5, nil)}}, {"", nil}} {
		s := c.s + strings.Repeat("\n", MaxText-len(c.s))
		reads(t, s, c.want)
		fails(t, s+"\n", 0, api.ErrLong)
		fails(t, s+s, 0, api.ErrLong)
	}
	for _, s := range []string{"x\n", "5 0 0\n5 0 0\n", "05 0 0\n", "", strings.Repeat("7 d 0\n", MaxSteps+1)} {
		for _, b := range []string{" ", "\n", "c", "0", "\x00", "-"} {
			fails(t, s+strings.Repeat(b, MaxText+1-len(s)), 0, api.ErrLong)
		}
	}
}

func TestReadOfLongLinesAndWords(t *testing.T) {
	for _, b := range []string{"9", "0", "-", "x", "c", "\t", " ", "1 ", "0 ", "d ", "\xff"} {
		rest := strings.Repeat(b, (MaxText-20)/len(b))
		fails(t, rest, 1, ErrText)
		fails(t, "5 0 0\n\n6 "+rest, 3, ErrText)
		fails(t, "6 d 1"+rest, 1, ErrText)
	}
	fails(t, strings.Repeat("\n", MaxText-1)+"x", MaxText, ErrText)
	fails(t, "5 0 0"+strings.Repeat("\n", MaxText-10)+"5 0 0", MaxText-9, ErrStep)
}

// TestReadOfAllShortTexts holds all texts of a few lines and pieces against the second reader.
func TestReadOfAllShortTexts(t *testing.T) {
	for _, s := range texts([]string{"\n", "1 0 0", "2 1 0 0\n", "1 d 0\n", "2 d 1 0", "c", " ", "0 d 0\n"}, 5) {
		isAsTheModel(t, s)
	}
}

func TestReadOfDrawnTexts(t *testing.T) {
	d := draws(77)
	pieces := []string{"1 0 0\n", "2 -1 0 1 0\n", "3 d 1 2 0\n", "4 1 2 0 -3 0\n", "5 0 4 0\n", "5 d 0\n", "\n", "c\n", "c 1\n", "1", "0", " ", "d", "-", "c", "\r", "\t", "6 0 0", "07 0 0\n", "8 0 0 \n", "9 1 0 0 0\n"}
	for range 60000 {
		s := ""
		for range d.below(9) {
			s += pieces[min(d.below(len(pieces)), d.below(len(pieces)))]
		}
		isAsTheModel(t, s)
	}
}

func TestReadOfTextsNearRightOnes(t *testing.T) {
	for _, s := range []string{"5 1 -2 0 3 4 0\n6 0 5 2 0\n6 d 1 3 0\n", "0 d 0\n\nc x\n12 0 -10 0", "c\n1 0 0\n2 d 0\n3 0 0"} {
		near(s, func(s string) { isAsTheModel(t, s) })
	}
}

// P7.4

func TestWhatIsWrittenIsReadBack(t *testing.T) {
	for _, l := range proofs() {
		s, i, e := Write(l)
		if i != -1 || e != api.OK {
			t.Fatal(l, i, e)
		}
		got, line, e := Read(s)
		if !Same(got, l) || line != 0 || e != api.OK {
			t.Fatal(l, got, line, e)
		}
		if again, _, _ := Write(got); again != s {
			t.Fatal(s, again)
		}
	}
}

func TestALineIsThatOfOneStepAlone(t *testing.T) {
	lines := map[string]Step{}
	for _, l := range proofs() {
		for _, s := range l {
			line, e := Line(s)
			if other, ok := lines[line]; e != api.OK || ok && !isStep(s, other) {
				t.Fatal(line, s, other, e)
			}
			lines[line] = s
		}
	}
	if len(lines) < 500 {
		t.Error(len(lines))
	}
}

func TestAProofThatIsCutOffIsOne(t *testing.T) {
	for _, l := range proofs() {
		for i := range l {
			isProof(t, l[:i], modelText(l[:i]))
		}
		s := modelText(l)
		for n := range strings.Count(s, "\n") {
			reads(t, strings.Join(strings.SplitAfter(s, "\n")[:n], ""), l[:n])
		}
	}
}

// What holds of all functions.

// sealed returns lists with spare memory, and a function that reports whether nothing was written into any of it.
func sealed(l []Step) ([]Step, func() bool) {
	c := make([]Step, 0, len(l)+2)
	for _, s := range l {
		s.Lits = append(make(clause, 0, len(s.Lits)+2), s.Lits...)
		s.Hints = append(make([]int, 0, len(s.Hints)+2), s.Hints...)
		c = append(c, s)
	}
	return c, func() bool {
		for _, s := range c {
			spareLits, spareHints := s.Lits[len(s.Lits):cap(s.Lits)], s.Hints[len(s.Hints):cap(s.Hints)]
			if slices.ContainsFunc(spareLits, func(x lits.Lit) bool { return x != 0 }) || slices.ContainsFunc(spareHints, func(x int) bool { return x != 0 }) {
				return false
			}
		}
		return equal(c, l) && !slices.ContainsFunc(c[len(c):cap(c)], func(s Step) bool { return !isZero(s) })
	}
}

func TestArgumentsStay(t *testing.T) {
	for _, l := range append(proofs(), wrong()) {
		c, stays := sealed(l)
		Check(c)
		Write(c)
		Same(c, l)
		Same(l, c)
		Copy(c)
		for _, s := range c {
			Right(s)
			Line(s)
		}
		if !stays() {
			t.Fatal(len(l))
		}
	}
}

// spoil writes into all memory of a list.
func spoil(l []Step) {
	for _, s := range l {
		for i := range s.Lits[:cap(s.Lits)] {
			s.Lits[:cap(s.Lits)][i] = 77
		}
		for i := range s.Hints[:cap(s.Hints)] {
			s.Hints[:cap(s.Hints)][i] = 78
		}
	}
	l = l[:cap(l)]
	for i := range l {
		l[i] = add(79, clause{80}, 81)
	}
}

func TestCopiesShareNoMemory(t *testing.T) {
	for _, want := range append(proofs(), wrong()) {
		l, stays := sealed(want)
		a, b := Copy(l), Copy(l)
		apart(t, a)
		a = Copy(l)
		spoil(a)
		if !stays() || !equal(b, want) {
			t.Fatal(len(want))
		}
		spoil(l)
		if !equal(b, want) {
			t.Fatal(len(want))
		}
	}
}

// apart checks that no two lists within a result share memory.
func apart(t *testing.T, l []Step) {
	t.Helper()
	for _, s := range l {
		for i := range s.Lits[:cap(s.Lits)] {
			s.Lits[:cap(s.Lits)][i] = 0
		}
		for i := range s.Hints[:cap(s.Hints)] {
			s.Hints[:cap(s.Hints)][i] = 0
		}
	}
	for n, s := range l {
		for i := range s.Lits[:cap(s.Lits)] {
			s.Lits[:cap(s.Lits)][i] += lits.Lit(n + 1)
		}
		for i := range s.Hints[:cap(s.Hints)] {
			s.Hints[:cap(s.Hints)][i] += n + 1
		}
	}
	for n, s := range l {
		if slices.ContainsFunc(s.Lits, func(x lits.Lit) bool { return x != lits.Lit(n+1) }) || slices.ContainsFunc(s.Hints, func(h int) bool { return h != n+1 }) {
			t.Fatal(n, s)
		}
	}
}

func TestStepsThatAreReadShareNoMemory(t *testing.T) {
	for _, want := range proofs() {
		s := modelText(want)
		l, _, _ := Read(s)
		other, _, _ := Read(s)
		apart(t, l)
		l, _, _ = Read(s)
		spoil(l)
		again, _, _ := Read(s)
		if !equal(other, want) || !equal(again, want) {
			t.Fatal(want, other, again)
		}
		for _, step := range want {
			one, _ := Parse(modelLine(step))
			two, _ := Parse(modelLine(step))
			spoil([]Step{one})
			if !isStep(two, step) {
				t.Fatal(step, two)
			}
		}
	}
}
