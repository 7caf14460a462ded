package dimacs

import (
	"math"
	"regexp"
	"slices"
	"strconv"
	"strings"
	"testing"

	"salvor/api"
	"salvor/clauses"
	"salvor/formula"
	"salvor/lits"
)

type clause = clauses.Clause

// of returns the formula of some variables and clauses.
func of(vars int, c ...clause) formula.Formula { return formula.Formula{Vars: vars, Clauses: c} }

// ones returns the clause that has the literal 1 so many times.
func ones(times int) clause { return slices.Repeat(clause{1}, times) }

// equal reports whether two formulas are equal, literal by literal.
func equal(f, g formula.Formula) bool {
	return f.Vars == g.Vars && slices.EqualFunc(f.Clauses, g.Clauses, func(a, b clause) bool { return slices.Equal(a, b) })
}

// text returns lines, each ended by a line feed.
func text(lines ...string) string { return strings.Join(lines, "\n") + "\n" }

// isText checks that a text is the one that is wanted; a long one is not shown.
func isText(t *testing.T, got, want string) {
	t.Helper()
	if got != want {
		t.Errorf("%d bytes: %.200q, but not %d: %.200q", len(got), got, len(want), want)
	}
}

// reads checks what Read and Canonical say of a text.
func reads(t *testing.T, s string, want formula.Formula) {
	t.Helper()
	if f, line, e := Read(s); !equal(f, want) || line != 0 || e != api.OK {
		t.Errorf("%.200q: %d variables, %d clauses, %d, %d", s, f.Vars, len(f.Clauses), line, e)
	}
	written := modelText(want)
	canonical, line, e := Canonical(s)
	if line != 0 || e != api.OK {
		t.Errorf("%.200q: %d, %d", s, line, e)
	}
	isText(t, canonical, written)
}

// fails checks that Read and Canonical have an error for a text at a line, and nothing else.
func fails(t *testing.T, s string, line int, e api.Errno) {
	t.Helper()
	if f, at, got := Read(s); f.Vars != 0 || f.Clauses != nil || at != line || got != e {
		t.Errorf("Read of %.200q: %d variables, %d clauses, %d at %d, but not %d at %d", s, f.Vars, len(f.Clauses), got, at, e, line)
	}
	if canonical, at, got := Canonical(s); canonical != "" || at != line || got != e {
		t.Errorf("Canonical of %.200q: %.200q, %d at %d, but not %d at %d", s, canonical, got, at, e, line)
	}
}

// What follows is a second reader and a second writer, by the words of the chapter, to hold the package against.

// modelText returns the text of a formula that is right.
func modelText(f formula.Formula) string {
	var b []byte
	b = append(b, "p cnf "...)
	b = strconv.AppendInt(b, int64(f.Vars), 10)
	b = append(b, ' ')
	b = strconv.AppendInt(b, int64(len(f.Clauses)), 10)
	b = append(b, '\n')
	for _, c := range f.Clauses {
		for _, l := range c {
			b = strconv.AppendInt(b, int64(l), 10)
			b = append(b, ' ')
		}
		b = append(b, "0\n"...)
	}
	return string(b)
}

var (
	headers  = regexp.MustCompile(`\Ap cnf (0|[1-9][0-9]{0,9}) (0|[1-9][0-9]{0,9})\z`)
	literals = regexp.MustCompile(`\A-?[1-9][0-9]{0,9}\z`)
	passed   = regexp.MustCompile(`(?s)\A(c|c .*| *)\z`)
	spaces   = regexp.MustCompile(` +`)
)

// modelHeader returns the numbers of a header, if a line is one.
func modelHeader(line string) (int, int, bool) {
	m := headers.FindStringSubmatch(line)
	if m == nil {
		return 0, 0, false
	}
	vars, _ := strconv.Atoi(m[1])
	count, _ := strconv.Atoi(m[2])
	if vars > 1048576 || count > 262144 {
		return 0, 0, false
	}
	return vars, count, true
}

// modelRead returns the formula that a text says, or the line of an error.
func modelRead(s string) (formula.Formula, int, api.Errno) {
	none := formula.Formula{}
	if len(s) > 4194304 {
		return none, 0, api.ErrLong
	}
	vars, count, headed := 0, 0, false
	var ended []clause
	open := clause{}
	split := strings.Split(s, "\n")
	for i, line := range split {
		if passed.MatchString(line) {
			continue
		}
		if !headed {
			if vars, count, headed = modelHeader(line); !headed {
				return none, i + 1, ErrHeader
			}
			continue
		}
		for _, word := range spaces.Split(strings.Trim(line, " "), -1) {
			n, _ := strconv.Atoi(word)
			if word != "0" && (!literals.MatchString(word) || n < -1048576 || n > 1048576) {
				return none, i + 1, ErrWord
			}
			if n < -vars || n > vars {
				return none, i + 1, ErrVar
			}
			if len(ended) == count {
				return none, i + 1, ErrCount
			}
			if n == 0 {
				ended, open = append(ended, open), clause{}
				continue
			}
			if open = append(open, lits.Lit(n)); len(open) > 4096 {
				return none, i + 1, api.ErrMany
			}
		}
	}
	if !headed {
		return none, len(split) + 1, ErrHeader
	}
	if len(ended) < count || len(open) > 0 {
		return none, len(split) + 1, ErrCount
	}
	return of(vars, ended...), 0, api.OK
}

// isAsTheModel checks what Read and Canonical say of a text against the second reader.
func isAsTheModel(t *testing.T, s string) {
	t.Helper()
	if want, line, e := modelRead(s); e == api.OK {
		reads(t, s, want)
	} else {
		fails(t, s, line, e)
	}
	if t.Failed() {
		t.FailNow()
	}
}

// draws are numbers that follow no plain rule, but are the same in each run of the tests.
type draws uint64

func (d *draws) below(bound int) int {
	*d = *d*6364136223846793005 + 1442695040888963407
	return int(uint64(*d)>>33) % bound
}

// formula draws a formula; some have the greatest variables.
func (d *draws) formula() formula.Formula {
	f := of([]int{d.below(4), d.below(100), lits.MaxVar}[d.below(3)])
	for range d.below(8) {
		var c clause
		for range d.below(6) {
			if v := lits.Lit(f.Vars - d.below(min(f.Vars, 12)+1)); v > 0 {
				c = append(c, v*lits.Lit(1-2*d.below(2)))
			}
		}
		f.Clauses = append(f.Clauses, c)
	}
	return f
}

// formulas are right formulas.
func formulas() []formula.Formula {
	l := []formula.Formula{
		of(0), {Vars: 0, Clauses: []clause{}}, of(7), of(lits.MaxVar), of(0, nil), of(0, clause{}, nil), of(3, nil, clause{1}, nil),
		of(3, clause{1, -2}, nil, clause{3}), of(1, clause{-1}), of(1, clause{1, 1, -1, 1}), of(2, clause{2}, clause{2}, clause{-2}),
		of(10, clause{10, 1, -10, -1}), of(120, clause{100, -110, 101}, clause{-120}), of(lits.MaxVar, clause{lits.MaxVar, -lits.MaxVar}),
	}
	d := draws(6)
	for range 400 {
		l = append(l, d.formula())
	}
	return l
}

// noNumbers are numbers that are less than 0, or greater than a bound.
func noNumbers(bound int) []int {
	return []int{-1, -2, -bound, bound + 1, 2 * bound, 10 * bound, 1 << 32, 1<<32 + 1, math.MinInt32, math.MinInt, math.MaxInt}
}

// noLits are numbers that are no literals.
func noLits() []lits.Lit {
	return []lits.Lit{0, lits.MaxVar + 1, -lits.MaxVar - 1, 1<<32 + 1, math.MaxInt, math.MinInt}
}

// noWords are words that are no literals, and not 0.
func noWords() []string {
	return []string{
		"x", "-", "--1", "+1", "+", "-+1", "1-", "1-1", "00", "01", "-01", "001", "-0", "+0", "0-", "0x1", "0b1", "0o1", "1e0", "1.0", "1_0", "1,", "one",
		"c", "p", "cnf", "c0", "%", ".", "1\t", "\t1", "\t", "1\t0", "1\r", "0\r", "\r", "\v", "\f", "1\v0", "0\x00", "\x00", "\x001", "1\xff", "\xff", "\xc2\xa0", "\xa0", "1\u00a00", "\u2028", "\u0661", "\uff11", "\u22121",
		"1048577", "-1048577", "9999999", "10000000", "-10000000", "4294967297", "-4294967297", "9223372036854775807", "-9223372036854775808", "18446744073709551617", "18446744073709551616",
		"1" + strings.Repeat("0", 1000), strings.Repeat("1", 5000), strings.Repeat("0", 5000), "-" + strings.Repeat("0", 64) + "1",
	}
}

func TestConstants(t *testing.T) {
	if MaxText != 4194304 || ErrHeader != 60 || ErrWord != 61 || ErrVar != 62 || ErrCount != 63 {
		t.Error(MaxText, ErrHeader, ErrWord, ErrVar, ErrCount)
	}
}

func TestExamples(t *testing.T) {
	if s, e := Write(of(3, clause{1, -2}, nil, clause{3})); s != "p cnf 3 3\n1 -2 0\n0\n3 0\n" || e != api.OK {
		t.Error(s, e)
	}
	reads(t, "c x\np cnf 2 2\n1 2\n0 -1 0", of(2, clause{1, 2}, clause{-1}))
	fails(t, "p cnf 1 1\n2 0", 2, ErrVar)
	fails(t, "p cnf 1 1\n1 0 1 0", 2, ErrCount)
	fails(t, "p cnf 1 1\n1", 3, ErrCount)
	fails(t, "p cnf 1 1\n1 x 0", 2, ErrWord)
	fails(t, "p cnf 01 1", 1, ErrHeader)
	fails(t, "", 2, ErrHeader)
}

// P6.1

// numbers are some from 0 to a bound.
func numbers(bound int) []int {
	return []int{0, 1, 2, 9, 10, 11, 99, 100, 101, 12345, 65536, 100000, bound/2 + 1, bound - 10, bound - 1, bound}
}

func TestHeadersAreReadBack(t *testing.T) {
	for _, vars := range numbers(lits.MaxVar) {
		for _, count := range numbers(formula.MaxClauses) {
			want := "p cnf " + strconv.Itoa(vars) + " " + strconv.Itoa(count)
			if s, e := Header(vars, count); s != want || e != api.OK {
				t.Error(vars, count, s, e)
			}
			if v, c, e := ParseHeader(want); v != vars || c != count || e != api.OK {
				t.Error(want, v, c, e)
			}
		}
	}
}

func TestHeaderOfNoNumbers(t *testing.T) {
	for _, vars := range noNumbers(lits.MaxVar) {
		for _, count := range append(noNumbers(formula.MaxClauses), numbers(formula.MaxClauses)...) {
			if s, e := Header(vars, count); s != "" || e != formula.ErrVars {
				t.Error(vars, count, s, e)
			}
		}
	}
	for _, vars := range numbers(lits.MaxVar) {
		for _, count := range noNumbers(formula.MaxClauses) {
			if s, e := Header(vars, count); s != "" || e != api.ErrMany {
				t.Error(vars, count, s, e)
			}
		}
	}
}

// noHeaders are lines that are no headers.
func noHeaders() []string {
	l := []string{
		"p", "p cnf", "p cnf ", "p cnf 1", "p cnf 1 ", "p cnf  1", "p cnf 1 1 ", "p cnf 1 1 1", "p cnf 1  1", "p cnf  1 1", "p  cnf 1 1", " p cnf 1 1",
		"1 1", "cnf 1 1", "p 1 1", "pcnf 1 1", "p cnf1 1", "p cnf 11", "P cnf 1 1", "p CNF 1 1", "p Cnf 1 1", "p sat 1 1", "p wcnf 1 1", "p cnfs 1 1", "p cnf p cnf 1 1", "q cnf 1 1",
		"p\tcnf 1 1", "p cnf\t1 1", "p cnf 1\t1", "p cnf 1 1\t", "\tp cnf 1 1", "p cnf 1 1\r", "p cnf 1\r1", "p cnf 1 1\x00", "\xef\xbb\xbfp cnf 1 1", "p\u00a0cnf 1 1", "p cnf 1\u00a01",
		"p cnf 01 1", "p cnf 1 01", "p cnf 00 1", "p cnf 1 00", "p cnf +1 1", "p cnf 1 +1", "p cnf -1 1", "p cnf 1 -1", "p cnf -0 0", "p cnf 0 -0", "p cnf +0 +0", "p cnf -- 1",
		"p cnf 1.0 1", "p cnf 1e1 1", "p cnf 0x1 1", "p cnf 1 0x1", "p cnf 1_0 1", "p cnf x 1", "p cnf 1 x", "p cnf 1, 1", "p cnf \u0661 1",
		"p cnf 1048577 1", "p cnf 1 262145", "p cnf 1048577 262145", "p cnf 10000000 1", "p cnf 4294967297 1", "p cnf 1 4294967297", "p cnf 18446744073709551617 1", "p cnf 1 18446744073709551617", "p cnf 9223372036854775808 1", "p cnf 1 -9223372036854775809",
		"p cnf " + strings.Repeat("9", 3000) + " 1", "p cnf 1 " + strings.Repeat("9", 3000), "p cnf " + strings.Repeat("0", 3000) + "1 1", "p cnf 1 1" + strings.Repeat(" ", 3000),
		"x", "0", "1 0", "\t", "\r", "\x00", "\xff", "cx", "c\t", "c\tp cnf 1 1", "cp cnf 1 1", " c", " c x", "c0 1", "C x", "%",
	}
	return l
}

func TestParseHeaderOfNone(t *testing.T) {
	for _, line := range append(noHeaders(), "", " ", "c", "c ", "c x", "c p cnf 1 1", "p cnf 1 1\n", "\np cnf 1 1", "p cnf 1\n1", "p cnf\n1 1", "p cnf 1 1\n1 0", "p cnf 1 1\np cnf 1 1") {
		if vars, count, e := ParseHeader(line); vars != 0 || count != 0 || e != ErrHeader {
			t.Errorf("%.200q: %d, %d, %d", line, vars, count, e)
		}
	}
}

// near yields all texts that come of one if a byte is put into it, taken away, or becomes another one.
func near(s string, yield func(string)) {
	for i := range len(s) + 1 {
		for b := range 256 {
			yield(s[:i] + string([]byte{byte(b)}) + s[i:])
			if i < len(s) {
				yield(s[:i] + string([]byte{byte(b)}) + s[i+1:])
			}
		}
		if i < len(s) {
			yield(s[:i] + s[i+1:])
		}
	}
}

func TestParseHeaderOfLinesNearHeaders(t *testing.T) {
	for _, header := range []string{"p cnf 0 0", "p cnf 1 2", "p cnf 10 90", "p cnf 1048576 262144", "p cnf 1048575 262143", "p cnf 100000 99999"} {
		near(header, func(line string) {
			vars, count, is := modelHeader(line)
			v, c, e := ParseHeader(line)
			if v != vars || c != count || (e == api.OK) != is || !is && e != ErrHeader {
				t.Errorf("%q: %d, %d, %d", line, v, c, e)
			}
		})
	}
}

func TestLine(t *testing.T) {
	long := clause{}
	var words []string
	for v := lits.MaxVar; len(long) < clauses.MaxLits; v -= 200 {
		long = append(long, lits.Lit(-v))
		words = append(words, "-"+strconv.Itoa(v))
	}
	for i, c := range []struct {
		c    clause
		want string
	}{
		{nil, "0"}, {clause{}, "0"}, {clause{1}, "1 0"}, {clause{-1}, "-1 0"}, {clause{1, -2}, "1 -2 0"}, {clause{-2, 1}, "-2 1 0"}, {clause{3, 3, -3, 1, 3}, "3 3 -3 1 3 0"},
		{clause{10, -100, 1000}, "10 -100 1000 0"}, {clause{lits.MaxVar, -lits.MaxVar}, "1048576 -1048576 0"},
		{ones(clauses.MaxLits), strings.Repeat("1 ", clauses.MaxLits) + "0"}, {long, strings.Join(words, " ") + " 0"},
	} {
		s, e := Line(c.c)
		if e != api.OK {
			t.Error(i, e)
		}
		isText(t, s, c.want)
	}
}

func TestLineOfNoClause(t *testing.T) {
	l := []clause{ones(clauses.MaxLits + 1), ones(2 * clauses.MaxLits), make(clause, clauses.MaxLits+1)}
	for _, n := range noLits() {
		l = append(l, clause{n}, clause{n, 1}, clause{1, n}, clause{1, n, 2}, clause{n, n})
	}
	for i, c := range l {
		if s, e := Line(c); s != "" || e != clauses.ErrClause {
			t.Error(i, s, e)
		}
	}
}

// P6.2

func TestWrite(t *testing.T) {
	for _, f := range append(formulas(), of(1, ones(clauses.MaxLits), nil), of(1, slices.Repeat([]clause{nil}, formula.MaxClauses)...), of(2, slices.Repeat([]clause{{2}}, formula.MaxClauses)...)) {
		s, e := Write(f)
		if e != api.OK {
			t.Fatal(f.Vars, len(f.Clauses), e)
		}
		isText(t, s, modelText(f))
	}
}

func TestWriteOfWrongFormulas(t *testing.T) {
	tooMany := slices.Repeat([]clause{{1}}, formula.MaxClauses+1)
	l := []formula.Formula{
		of(1, tooMany...), of(-1, tooMany...), of(0, clause{1}), of(3, clause{4}), of(3, clause{-4}), of(3, clause{1}, nil, clause{2, 4}), of(lits.MaxVar-1, clause{-lits.MaxVar}),
		of(1, ones(clauses.MaxLits+1)), of(0, ones(clauses.MaxLits+1)), of(3, clause{4}, clause{0}), of(3, clause{0}, clause{4}),
		of(1, append(tooMany[:formula.MaxClauses-1:formula.MaxClauses-1], clause{2})...), of(1, append(tooMany[:formula.MaxClauses-1:formula.MaxClauses-1], clause{0})...),
		// These have too many bytes, too.
		of(1, append(slices.Repeat([]clause{ones(clauses.MaxLits)}, 1000), clause{2})...), of(-1, slices.Repeat([]clause{ones(clauses.MaxLits)}, 1000)...),
	}
	for _, n := range noLits() {
		l = append(l, of(3, clause{n}), of(3, clause{1}, clause{1, n, 2}))
	}
	for _, n := range noNumbers(lits.MaxVar) {
		l = append(l, of(n), of(n, clause{1}), of(n, clause{0}))
	}
	for i, f := range l {
		_, want := formula.Check(f)
		if s, e := Write(f); s != "" || want == api.OK || e != want {
			t.Error(i, len(s), e, want)
		}
	}
}

// long returns a formula of one variable whose text has so many bytes, which are at least 8000.
func long(bytes int) formula.Formula {
	many := bytes / 8000
	left := bytes - len("p cnf 1 "+strconv.Itoa(many)+"\n")
	f := of(1)
	for n := many; n > 0; n-- {
		// A line of so many literals 1 has 2 bytes for each of them, and for its end.
		c := ones(left/n/2 - 1)
		left -= 2*len(c) + 2
		f.Clauses = append(f.Clauses, c)
	}
	if left == 1 {
		f.Clauses[0][0] = -1
	}
	return f
}

func TestWriteOfLongTexts(t *testing.T) {
	for bytes := MaxText - 5; bytes <= MaxText; bytes++ {
		f := long(bytes)
		s, e := Write(f)
		if len(s) != bytes || e != api.OK {
			t.Fatal(bytes, len(s), e)
		}
		isText(t, s, modelText(f))
		reads(t, s, f)
	}
	for _, bytes := range []int{MaxText + 1, MaxText + 2, MaxText + 3, MaxText + 1000, 2 * MaxText} {
		if s, e := Write(long(bytes)); s != "" || e != api.ErrLong {
			t.Error(bytes, len(s), e)
		}
	}
}

func TestWriteOfFarTooLongTexts(t *testing.T) {
	c := slices.Repeat(clause{-lits.MaxVar}, clauses.MaxLits)
	if s, e := Write(of(lits.MaxVar, slices.Repeat([]clause{c}, 1<<14)...)); s != "" || e != api.ErrLong {
		t.Error(len(s), e)
	}
}

// P6.3

func TestReadOfRightTexts(t *testing.T) {
	for _, c := range []struct {
		s    string
		want formula.Formula
	}{
		{"p cnf 0 0", of(0)}, {"p cnf 0 0\n", of(0)}, {"p cnf 5 0\n\n\n", of(5)}, {"\n\n \np cnf 5 0\n  \nc\nc x\n ", of(5)}, {"p cnf 1048576 0", of(lits.MaxVar)},
		{"p cnf 0 1\n0", of(0, nil)}, {"p cnf 0 1\n0\n", of(0, nil)}, {"p cnf 0 3\n0 0\n0", of(0, nil, nil, nil)}, {"p cnf 2 3\n0\n1 0\n0\n", of(2, nil, clause{1}, nil)},
		{"p cnf 2 1\n1 2 0", of(2, clause{1, 2})}, {"p cnf 2 1\n2 -1 2 1 0", of(2, clause{2, -1, 2, 1})},
		{"p cnf 2 2\n1\n2\n0\n-1\n0", of(2, clause{1, 2}, clause{-1})}, {"p cnf 2 2\n1 0 2 0", of(2, clause{1}, clause{2})}, {"p cnf 2 2\n1 0 2\n0", of(2, clause{1}, clause{2})},
		{"p cnf 2 2\n\n1\n\n2 0\n\n\n-2\n \n0\n\n", of(2, clause{1, 2}, clause{-2})}, {"p cnf 2 2\n  1   2  0   -2 0  ", of(2, clause{1, 2}, clause{-2})},
		{"p cnf 2 1\n1\nc 2\nc 0\nc\n2 0", of(2, clause{1, 2})}, {"c p cnf 9 9\np cnf 2 1\nc p cnf 3 3\n1 0\nc p cnf 4 4", of(2, clause{1})},
		{"c\np cnf 1 1\n1 0\nc", of(1, clause{1})}, {"c \np cnf 1 1\n1 0\nc ", of(1, clause{1})}, {"c \t\r\x00\xff\np cnf 1 1\nc  \t0 x\n1 0", of(1, clause{1})}, {"c c\nc cnf\np cnf 1 1\n1 0\nc 1 0", of(1, clause{1})},
		{"p cnf 1048576 2\n1048576 0 -1048576 1 0", of(lits.MaxVar, clause{lits.MaxVar}, clause{-lits.MaxVar, 1})}, {"p cnf 20 1\n19 -20 0", of(20, clause{19, -20})},
		{"p cnf 1 1\n" + strings.Repeat("1 ", clauses.MaxLits) + "0", of(1, ones(clauses.MaxLits))},
		{"p cnf 1 3\n" + strings.Repeat("1\n", clauses.MaxLits) + "0 1 0 " + strings.Repeat("1 ", clauses.MaxLits) + "0", of(1, ones(clauses.MaxLits), clause{1}, ones(clauses.MaxLits))},
		{"p cnf 1 262144\n" + strings.Repeat("0 ", formula.MaxClauses), of(1, slices.Repeat([]clause{nil}, formula.MaxClauses)...)},
		{"p cnf 3 262144\n" + strings.Repeat("-3 0\n", formula.MaxClauses), of(3, slices.Repeat([]clause{{-3}}, formula.MaxClauses)...)},
	} {
		reads(t, c.s, c.want)
		if f, _, e := modelRead(c.s); !equal(f, c.want) || e != api.OK {
			t.Errorf("the model reads %.200q otherwise", c.s)
		}
	}
}

func TestReadOfTextsWithoutAHeader(t *testing.T) {
	for s, line := range map[string]int{
		"": 2, " ": 2, "c": 2, "c x": 2, "c p cnf 1 1": 2, "\n": 3, "c\n": 3, "c\nc": 3, "\n\n\n": 5, "c x\n \n\nc": 5, "   \nc y\n": 4, strings.Repeat("\n", MaxText): MaxText + 2,
	} {
		fails(t, s, line, ErrHeader)
	}
	for _, line := range noHeaders() {
		fails(t, line, 1, ErrHeader)
		fails(t, line+"\np cnf 1 1\n1 0\n", 1, ErrHeader)
		fails(t, "c x\n\n  \nc\n"+line+"\nx 2 0\n", 5, ErrHeader)
	}
}

func TestReadOfNoWords(t *testing.T) {
	for _, w := range noWords() {
		// A c at the beginning of a line, and alone there, is no word.
		if w != "c" {
			fails(t, "p cnf 1 1\n"+w, 2, ErrWord)
			fails(t, "p cnf 1 1\n1 0\n\n"+w+" 1 0\n", 4, ErrWord)
		}
		fails(t, "p cnf 1 1\n "+w, 2, ErrWord)
		fails(t, "p cnf 1 1\n1 "+w+" 0", 2, ErrWord)
		fails(t, "\np cnf 1 2\n1\nc\n0 "+w+" 2", 5, ErrWord)
		fails(t, "p cnf 1 1\n1 0 "+w, 2, ErrWord)
		fails(t, "p cnf 0 0\n\n "+w+"\n2\n", 3, ErrWord)
		fails(t, "p cnf 1 1\n"+strings.Repeat("1 ", clauses.MaxLits)+w, 2, ErrWord)
	}
}

func TestReadOfLinesThatBeginWithAC(t *testing.T) {
	for b := range 256 {
		line := string([]byte{'c', byte(b)})
		switch b {
		case ' ':
			reads(t, line+"0\np cnf 1 1\n"+line+"0\n1 0\n"+line, of(1, clause{1}))
		case '\n':
			fails(t, "p cnf 1 1\n"+line+"2", 3, ErrVar)
		default:
			fails(t, line+" \np cnf 1 1\n1 0", 1, ErrHeader)
			fails(t, "p cnf 1 1\n1\n"+line+" 0", 3, ErrWord)
			fails(t, "p cnf 1 1\n1\n0\n"+line, 4, ErrWord)
		}
	}
}

// Spaces and line feeds alone stand between words.
func TestReadOfOtherBytesBetweenWords(t *testing.T) {
	for b := range 256 {
		other := string([]byte{byte(b)})
		s := "p cnf 1 1\n" + other + "1" + other + other + "0" + other
		switch {
		case b == ' ' || b == '\n':
			reads(t, s, of(1, clause{1}))
		case b >= '0' && b <= '9':
			isAsTheModel(t, s)
		default:
			fails(t, s, 2, ErrWord)
			fails(t, "p cnf 1 1\n1 0\n "+other, 3, ErrWord)
			fails(t, "\n "+other+"\np cnf 0 0", 2, ErrHeader)
		}
	}
}

func TestReadOfVariablesThatThereAreNot(t *testing.T) {
	for _, c := range []struct {
		s    string
		line int
	}{
		{"p cnf 0 1\n1 0", 2}, {"p cnf 0 1\n-1 0", 2}, {"p cnf 0 0\n1", 2}, {"p cnf 1 1\n-2 0", 2}, {"p cnf 1 1\n1 2 0", 2}, {"p cnf 1 2\n1 0\n\nc\n2 0", 5}, {"p cnf 9 1\n1\n9\n10\n0", 4},
		{"p cnf 1 1\n1048576", 2}, {"p cnf 1 1\n-1048576", 2}, {"p cnf 1048575 1\n1048575 -1048575\n1048576 0", 3}, {"p cnf 1048575 1\n-1048576 0", 2},
		// It comes before the errors that are listed behind it.
		{"p cnf 1 1\n1 0 2 0", 2}, {"p cnf 1 1\n" + strings.Repeat("1 ", clauses.MaxLits) + "2", 2},
	} {
		fails(t, c.s, c.line, ErrVar)
	}
}

func TestReadOfTooManyOrTooFewClauses(t *testing.T) {
	for _, c := range []struct {
		s    string
		line int
	}{
		{"p cnf 1 0\n0", 2}, {"p cnf 1 0\n1 0", 2}, {"p cnf 0 0\n\n\n0\n", 4}, {"p cnf 1 1\n1 0 0", 2}, {"p cnf 1 1\n1 0\n1", 3}, {"p cnf 1 1\n1 0\n\n 0", 4}, {"p cnf 1 2\n1 0 0\nc\n-1 0", 4},
		{"p cnf 1 1\n" + strings.Repeat("1 ", clauses.MaxLits) + "0\n1\n1", 3}, {"p cnf 1 1\n1 0\n" + strings.Repeat("1\n", clauses.MaxLits+1), 3},
		{"p cnf 1 262144\n" + strings.Repeat("0 ", formula.MaxClauses) + "\n0", 3}, {"p cnf 1 262144\n" + strings.Repeat("0\n", formula.MaxClauses) + "1", formula.MaxClauses + 2},
		{"p cnf 1 1", 2}, {"p cnf 1 1\n", 3}, {"p cnf 1 1\nc 0\n\n", 5}, {"p cnf 1 1\n1", 3}, {"p cnf 1 1\n1\n", 4}, {"p cnf 1 2\n1 0", 3}, {"p cnf 1 2\n1 0 1", 3}, {"p cnf 1 2\n1 0\n1\n", 5}, {"c\np cnf 1 3\n0 0\n", 5},
		{"p cnf 1 1\n" + strings.Repeat("1 ", clauses.MaxLits), 3}, {"p cnf 1 262144\n" + strings.Repeat("0 ", formula.MaxClauses-1), 3}, {"p cnf 1 262144\n" + strings.Repeat("0\n", formula.MaxClauses-1) + "1", formula.MaxClauses + 2},
	} {
		fails(t, c.s, c.line, ErrCount)
	}
}

func TestReadOfTooManyLiterals(t *testing.T) {
	full := strings.Repeat("1 ", clauses.MaxLits)
	for _, c := range []struct {
		s    string
		line int
	}{
		{"p cnf 1 1\n" + full + "1 0", 2}, {"p cnf 1 1\n" + full + "\n\n-1", 4}, {"p cnf 1 2\n" + full + "0\n" + full + "\n1 0", 4}, {"p cnf 1 1\n" + full + "1 x", 2}, {"p cnf 1 1\n" + full + "\n1\n0 0", 3},
		{"p cnf 1 1\n" + strings.Repeat("-1\n", clauses.MaxLits) + "c\n-1\n", clauses.MaxLits + 3}, {"p cnf 1 9\n" + full + full, 2},
	} {
		fails(t, c.s, c.line, api.ErrMany)
	}
}

func TestReadOfTheFirstOfSeveralErrors(t *testing.T) {
	for _, c := range []struct {
		s    string
		line int
		e    api.Errno
	}{
		{"p cnf 1 1\n2\nx", 2, ErrVar}, {"p cnf 1 1\nx\n2", 2, ErrWord}, {"p cnf 1 1\n0\n0\nx\n2", 3, ErrCount}, {"p cnf 1 1\n0\n2\n0\nx", 3, ErrVar}, {"p cnf 1 1\n1 0\nx 0", 3, ErrWord},
		{"q\nx\n", 1, ErrHeader}, {"p cnf 2 2 2\n3 0", 1, ErrHeader}, {"1 0\np cnf 1 1\n", 1, ErrHeader}, {"p cnf 1 1\np cnf 1 1\n1 0", 2, ErrWord}, {"p cnf 1 9\n1 0\n 2", 3, ErrVar}, {"p cnf 1 9\n1 0\n1 +1", 3, ErrWord},
	} {
		fails(t, c.s, c.line, c.e)
	}
}

func TestReadOfLongTexts(t *testing.T) {
	for _, c := range []struct {
		s    string
		want formula.Formula
	}{
		{"p cnf 1 1\n1 0\n", of(1, clause{1})}, {"p cnf 1 1\n1 0 ", of(1, clause{1})}, {"p cnf 1 1\n1 0\nc ", of(1, clause{1})},
	} {
		for _, b := range []string{" ", "\n"} {
			s := c.s + strings.Repeat(b, MaxText-len(c.s))
			reads(t, s, c.want)
			fails(t, s+b, 0, api.ErrLong)
			fails(t, s+s, 0, api.ErrLong)
		}
	}
	for _, s := range []string{"p cnf 0 1\n", "x\n", "p cnf 1 1\nx", "p cnf 1 1\n2", "p cnf 1 0\n0", "c\n", "p cnf 1 1\n" + strings.Repeat("1 ", clauses.MaxLits+1)} {
		for _, b := range []string{" ", "\n", "c", "0", "\x00", "-"} {
			fails(t, s+strings.Repeat(b, MaxText+1-len(s)), 0, api.ErrLong)
		}
	}
}

func TestReadOfLongLinesAndWords(t *testing.T) {
	for _, b := range []string{"9", "0", "-", "x", "c", "\t", "\xff"} {
		rest := strings.Repeat(b, MaxText-20)
		fails(t, rest, 1, ErrHeader)
		fails(t, "p cnf "+rest+" 1", 1, ErrHeader)
		fails(t, "p cnf 1 1\n\n "+rest, 3, ErrWord)
		fails(t, "p cnf 1 1\n1"+rest, 2, ErrWord)
	}
	comment := "c " + strings.Repeat("0 ", (MaxText-20)/2)
	reads(t, comment+"\np cnf 1 1\n1 0", of(1, clause{1}))
	reads(t, "p cnf 1 1\n1 0\n"+comment, of(1, clause{1}))
	fails(t, strings.Repeat("c\n", MaxText/2), MaxText/2+2, ErrHeader)
}

// pieces are what texts are put together of.
func pieces() []string {
	return []string{"p cnf 1 2", "\n", " ", "1", "-1", "0", "2", "c", "x", "\t"}
}

// TestReadOfAllShortTexts holds all texts of a few pieces against the second reader, with and without a header in front.
func TestReadOfAllShortTexts(t *testing.T) {
	texts := []string{""}
	for first := 0; len(texts) < 12000; first++ {
		for _, p := range pieces() {
			texts = append(texts, texts[first]+p)
		}
	}
	for _, s := range texts {
		isAsTheModel(t, s)
		for _, front := range []string{"p cnf 1 1\n", "c 0\n\np cnf 1 0\n", "p cnf 1 3\n1 0\n"} {
			isAsTheModel(t, front+s)
		}
	}
}

func TestReadOfDrawnTexts(t *testing.T) {
	d := draws(66)
	p := append(pieces(), "p cnf 3 1", "p cnf 2 3", "3 0", "\n1 2 0\n", " 0 ", "\nc 0\n", "\nc\n", " -3", "01", "\r", "\n\n", "0 0", " 1 ", " -2 ", " 0\n")
	for range 30000 {
		s := []string{"", "p cnf 3 2\n", "p cnf 2 5\n", "c\np cnf 0 4\n"}[d.below(4)]
		for range d.below(15) {
			s += p[d.below(len(p))]
		}
		isAsTheModel(t, s)
	}
}

func TestReadOfTextsNearRightOnes(t *testing.T) {
	for _, s := range []string{"p cnf 2 2\n1 -2 0\n2 0\n", "c x\np cnf 12 2\n10\n-2 0 0", "p cnf 0 0"} {
		near(s, func(s string) { isAsTheModel(t, s) })
	}
}

// P6.4

func TestCanonical(t *testing.T) {
	for s, want := range map[string]string{
		"p cnf 0 0": "p cnf 0 0\n", "\n\np cnf 7 0\n\n\n": "p cnf 7 0\n", "p cnf 2 2\n1 2 0 -1 0": text("p cnf 2 2", "1 2 0", "-1 0"), "c x\np cnf 2 2\n1 2\n0 -1 0\nc": text("p cnf 2 2", "1 2 0", "-1 0"),
		"p cnf 2 3\n 0  2 2\n\n-2   0\nc 0\n0": text("p cnf 2 3", "0", "2 2 -2 0", "0"), "p cnf 3 3\n1 -2 0\n0\n3 0\n": text("p cnf 3 3", "1 -2 0", "0", "3 0"),
	} {
		if got, line, e := Canonical(s); got != want || line != 0 || e != api.OK {
			t.Errorf("%q: %q, %d, %d", s, got, line, e)
		}
	}
}

// A text whose last line has no line feed is one byte shorter than the canonical one.
func TestCanonicalOfTextsWithoutTheLastLineFeed(t *testing.T) {
	for bytes := MaxText - 2; bytes <= MaxText+1; bytes++ {
		f := long(bytes)
		s := strings.TrimSuffix(modelText(f), "\n")
		if bytes <= MaxText {
			reads(t, s, f)
			continue
		}
		if g, line, e := Read(s); len(s) != MaxText || !equal(f, g) || line != 0 || e != api.OK {
			t.Error(len(s), line, e)
		}
		if canonical, line, e := Canonical(s); canonical != "" || line != 0 || e != api.ErrLong {
			t.Error(len(canonical), line, e)
		}
		fails(t, s+"\n", 0, api.ErrLong)
	}
}

// P6.5

func TestWhatIsWrittenIsReadBack(t *testing.T) {
	for _, f := range formulas() {
		s, e := Write(f)
		if e != api.OK {
			t.Fatal(f, e)
		}
		if g, line, e := Read(s); !equal(f, g) || line != 0 || e != api.OK {
			t.Fatal(f, g, line, e)
		}
		if canonical, line, e := Canonical(s); canonical != s || line != 0 || e != api.OK {
			t.Fatal(f, canonical, line, e)
		}
	}
}

// between draws what may stand between two words.
func (d *draws) between() string {
	s := ""
	for range d.below(3) {
		s += []string{" ", "   ", "\n", "\n\n", " \n ", "\nc\n", "\nc 0\n", "\nc p cnf 1 1\n ", "\nc 1 x\tcc\r\n\n"}[d.below(9)]
	}
	return s + []string{" ", "\n"}[d.below(2)]
}

// scattered draws a text that says a formula.
func (d *draws) scattered(f formula.Formula) string {
	header, rest, _ := strings.Cut(modelText(f), "\n")
	s := []string{"", "\n", "c\n", " \n\nc 1\n"}[d.below(4)] + header + "\n" + d.between()
	for i, word := range strings.Fields(rest) {
		if i > 0 {
			s += d.between()
		}
		s += word
	}
	return s + []string{"", "\n", " ", "\nc", "\nc 0\n\n"}[d.below(5)]
}

func TestCommentsSpacesAndLineFeedsChangeNothing(t *testing.T) {
	d := draws(65)
	for _, f := range formulas() {
		for range 5 {
			reads(t, d.scattered(f), f)
		}
	}
}

func TestTheCanonicalTextSaysTheSameAndIsItsOwn(t *testing.T) {
	d := draws(56)
	for _, f := range formulas() {
		s := d.scattered(f)
		canonical, line, e := Canonical(s)
		if line != 0 || e != api.OK {
			t.Fatalf("%q: %d, %d", s, line, e)
		}
		if g, line, e := Read(canonical); !equal(f, g) || line != 0 || e != api.OK {
			t.Fatalf("%q: %q, %d, %d", s, canonical, line, e)
		}
		if again, line, e := Canonical(canonical); again != canonical || line != 0 || e != api.OK {
			t.Fatalf("%q: %q, but then %q, %d, %d", s, canonical, again, line, e)
		}
	}
}

// What holds of all functions.

func TestArgumentsStay(t *testing.T) {
	for _, f := range append(formulas(), of(2, clause{1, 5}, clause{0}), of(-1, clause{1})) {
		g := of(f.Vars, make([]clause, 0, len(f.Clauses)+2)...)
		for _, c := range f.Clauses {
			g.Clauses = append(g.Clauses, append(make(clause, 0, len(c)+2), c...))
		}
		Write(g)
		for _, c := range g.Clauses {
			Line(c)
			if spare := c[len(c):cap(c)]; spare[0] != 0 || spare[1] != 0 {
				t.Fatal(f, c)
			}
		}
		if spare := g.Clauses[len(g.Clauses):cap(g.Clauses)]; !equal(f, g) || spare[0] != nil || spare[1] != nil {
			t.Fatal(f, g)
		}
	}
}

func TestClausesThatAreReadShareNoMemory(t *testing.T) {
	for _, want := range formulas() {
		s := modelText(want)
		f, _, _ := Read(s)
		other, _, _ := Read(s)
		for i := range f.Clauses {
			c := f.Clauses[i][:cap(f.Clauses[i])]
			for j := range c {
				c[j] = 77
			}
			for k := range f.Clauses[i+1:] {
				if !slices.Equal(f.Clauses[i+1+k], want.Clauses[i+1+k]) {
					t.Fatal(want, i, f)
				}
			}
		}
		for i, c := range f.Clauses {
			if len(c) != len(want.Clauses[i]) || slices.ContainsFunc(c, func(l lits.Lit) bool { return l != 77 }) {
				t.Fatal(want, i, f)
			}
		}
		l := f.Clauses[:cap(f.Clauses)]
		for i := range l {
			l[i] = clause{78}
		}
		again, _, _ := Read(s)
		if !equal(other, want) || !equal(again, want) {
			t.Fatal(want, other, again)
		}
	}
}
