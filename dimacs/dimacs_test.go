package dimacs

import (
	"math"
	"math/big"
	"regexp"
	"slices"
	"strconv"
	"strings"
	"testing"

	"weephole/api"
	"weephole/cnf"
)

func formula(vars int, clauses ...[]int) api.Formula {
	return api.Formula{Vars: vars, Clauses: clauses}
}

// many returns n clauses that have the same literals; they share memory.
func many(n int, c ...int) [][]int {
	return slices.Repeat([][]int{c}, n)
}

func repeat(x, n int) []int {
	return slices.Repeat([]int{x}, n)
}

// pool returns every clause of up to most literals of the variables 1 to vars.
func pool(vars, most int) [][]int {
	all := [][]int{{}}
	for from, length := 0, 1; length <= most; length++ {
		last := all[from:]
		from = len(all)
		for _, c := range last {
			for x := -vars; x <= vars; x++ {
				if x != 0 {
					all = append(all, append(slices.Clone(c), x))
				}
			}
		}
	}
	return all
}

// small returns every formula of up to 2 variables with up to 2 clauses of up to 2 literals.
func small() []api.Formula {
	var all []api.Formula
	for vars := range 3 {
		all = append(all, formula(vars))
		clauses := pool(vars, 2)
		for _, c := range clauses {
			all = append(all, formula(vars, c))
			for _, d := range clauses {
				all = append(all, formula(vars, c, d))
			}
		}
	}
	return all
}

// odd returns formulas that are valid and have something that a text may get wrong.
func odd() []api.Formula {
	return []api.Formula{
		formula(0),
		formula(5),
		formula(0, nil),
		formula(0, nil, []int{}, nil),
		formula(3, []int{1, -3}, nil),
		formula(3, nil, []int{1, -3}),
		formula(3, []int{1, 1, 1}, []int{1, -1}),
		formula(100, []int{10, -10, 100, -100, 99}),
		formula(api.MaxVars, []int{api.MaxVars, -api.MaxVars}, []int{1}),
		formula(api.MaxVars),
		formula(12, []int{1, 2}, []int{12}),
		formula(9, repeat(-9, api.MaxClause)),
		formula(0, many(30000)...),
	}
}

// blown returns the text of no variables and n empty clauses.
func blown(n int) string {
	return "p cnf 0 " + strconv.Itoa(n) + "\n" + strings.Repeat("0\n", n)
}

// texts calls f with every text of up to most of the pieces.
func texts(pieces []string, most int, f func(s string)) {
	var grow func(s string, n int)
	grow = func(s string, n int) {
		f(s)
		if n == most {
			return
		}
		for _, p := range pieces {
			grow(s+p, n+1)
		}
	}
	grow("", 0)
}

var written = regexp.MustCompile(`^(0|-?[1-9][0-9]*)$`)

// integer returns the number that a word is, of any size, and whether it is one.
func integer(word string) (*big.Int, bool) {
	if !written.MatchString(word) {
		return nil, false
	}
	return new(big.Int).SetString(word, 10)
}

func above(x *big.Int, limit int) bool {
	return x.CmpAbs(big.NewInt(int64(limit))) > 0
}

// model is what Parse returns for a text that is not too long, from the words of the promise.
func model(s string) (api.Formula, int, api.Errno) {
	all := strings.Split(s, "\n")
	if all[len(all)-1] == "" {
		all = all[:len(all)-1]
	}
	split := regexp.MustCompile(`[^ \t]+`)
	var f api.Formula
	header, left := false, 0
	var open []int
	for i, text := range all {
		words := split.FindAllString(text, -1)
		switch {
		case len(words) == 0 || words[0] == "c":
			continue
		case !header:
			if len(words) != 4 || words[0] != "p" || words[1] != "cnf" {
				return api.Formula{}, i + 1, api.ErrForm
			}
			vars, isVars := integer(words[2])
			clauses, isClauses := integer(words[3])
			switch {
			case !isVars || !isClauses || vars.Sign() < 0 || clauses.Sign() < 0:
				return api.Formula{}, i + 1, api.ErrForm
			case above(vars, api.MaxVars):
				return api.Formula{}, i + 1, api.ErrRange
			case above(clauses, api.MaxClauses):
				return api.Formula{}, i + 1, api.ErrLong
			}
			header, f.Vars, left = true, int(vars.Int64()), int(clauses.Int64())
			continue
		}
		for _, w := range words {
			x, ok := integer(w)
			switch {
			case left == 0 || !ok:
				return api.Formula{}, i + 1, api.ErrForm
			case x.Sign() == 0:
				f.Clauses = append(f.Clauses, open)
				open, left = nil, left-1
				continue
			case above(x, f.Vars):
				return api.Formula{}, i + 1, api.ErrRange
			case len(open) == api.MaxClause:
				return api.Formula{}, i + 1, api.ErrLong
			}
			open = append(open, int(x.Int64()))
		}
	}
	if !header || left > 0 {
		return api.Formula{}, len(all) + 1, api.ErrForm
	}
	return f, 0, api.OK
}

// compare fails the test unless Parse of a text does as the model.
func compare(t *testing.T, s string) {
	t.Helper()
	f, line, e := Parse(s)
	g, wantLine, want := model(s)
	if !cnf.Equal(f, g) || line != wantLine || e != want {
		t.Errorf("Parse(%q) = %d, %d, %d, want %d, %d, %d", s, f, line, e, g, wantLine, want)
	}
}

// text returns what Format returns, and fails the test if this is an error.
func text(t *testing.T, f api.Formula) string {
	t.Helper()
	s, e := Format(f)
	if e != api.OK {
		t.Fatalf("Format of %d variables and %d clauses: error %d", f.Vars, len(f.Clauses), e)
	}
	return s
}

// accepted fails the test unless Parse returns the formula.
func accepted(t *testing.T, name, s string, want api.Formula) {
	t.Helper()
	f, line, e := Parse(s)
	if !cnf.Equal(f, want) || line != 0 || e != api.OK {
		t.Errorf("%s: Parse = %d, %d, %d, want %d", name, f, line, e, want)
	}
}

// refused fails the test unless Parse returns the error in the line, and nothing else.
func refused(t *testing.T, name, s string, wantLine int, want api.Errno) {
	t.Helper()
	f, line, e := Parse(s)
	if line != wantLine || e != want {
		t.Errorf("%s: Parse = %d, %d, want %d, %d", name, line, e, wantLine, want)
	}
	if f.Vars != 0 || len(f.Clauses) != 0 {
		t.Errorf("%s: with an error there is a formula of %d variables and %d clauses", name, f.Vars, len(f.Clauses))
	}
}

// P3.1

func TestFormat(t *testing.T) {
	for _, x := range []struct {
		name string
		f    api.Formula
		want string
	}{
		{"the example", formula(3, []int{1, -3}, nil), "p cnf 3 2\n1 -3 0\n0\n"},
		{"an empty slice for an empty clause", formula(3, []int{1, -3}, []int{}), "p cnf 3 2\n1 -3 0\n0\n"},
		{"nothing", formula(0), "p cnf 0 0\n"},
		{"an empty slice for no clauses", api.Formula{Clauses: [][]int{}}, "p cnf 0 0\n"},
		{"no clauses", formula(7), "p cnf 7 0\n"},
		{"one empty clause", formula(0, nil), "p cnf 0 1\n0\n"},
		{"empty clauses first and between", formula(2, nil, []int{2}, nil, []int{-1}), "p cnf 2 4\n0\n2 0\n0\n-1 0\n"},
		{"literals in the order they have", formula(3, []int{3, -1, 2}), "p cnf 3 1\n3 -1 2 0\n"},
		{"a literal several times", formula(2, []int{2, 2, 2}), "p cnf 2 1\n2 2 2 0\n"},
		{"a literal and its negative", formula(2, []int{-2, 2}), "p cnf 2 1\n-2 2 0\n"},
		{"a clause several times", formula(1, []int{1}, []int{1}), "p cnf 1 2\n1 0\n1 0\n"},
		{"numbers with 0 in them", formula(100, []int{10, -100}), "p cnf 100 1\n10 -100 0\n"},
		{"more clauses than there are digits", formula(1, many(11, 1)...), "p cnf 1 11\n" + strings.Repeat("1 0\n", 11)},
		{"the most variables", formula(api.MaxVars, []int{-api.MaxVars}), "p cnf 1048576 1\n-1048576 0\n"},
		{"the longest clause", formula(1, repeat(-1, api.MaxClause)), "p cnf 1 1\n" + strings.Repeat("-1 ", api.MaxClause) + "0\n"},
	} {
		if s, e := Format(x.f); s != x.want || e != api.OK {
			t.Errorf("%s: Format = %q, %d, want %q", x.name, s, e, x.want)
		}
	}
}

func TestFormatErrors(t *testing.T) {
	longClause := repeat(1, api.MaxClause+1)
	longText := many(api.MaxText, 1)
	for _, x := range []struct {
		name string
		f    api.Formula
		want api.Errno
	}{
		{"too few variables", formula(-1), api.ErrRange},
		{"too many variables", formula(api.MaxVars + 1), api.ErrRange},
		{"the fewest variables", formula(math.MinInt), api.ErrRange},
		{"0", formula(1, []int{1}, []int{1, 0}), api.ErrRange},
		{"a variable too great", formula(1, []int{2}), api.ErrRange},
		{"the least number", formula(1, []int{math.MinInt}), api.ErrRange},
		{"a clause too long", formula(1, longClause), api.ErrLong},
		{"too many clauses", formula(1, many(api.MaxClauses+1, 1)...), api.ErrLong},
		{"as many clauses as there may be", formula(1, many(api.MaxClauses, 1)...), api.ErrLong},
		{"as many empty clauses as there may be", formula(1, many(api.MaxClauses)...), api.ErrLong},
		{"many clauses of many literals", formula(1, many(2000, repeat(1, api.MaxClause)...)...), api.ErrLong},
		{"a text too long, and too few variables", formula(-1, longText...), api.ErrRange},
		{"a text too long, and too many variables", formula(api.MaxVars+1, longText...), api.ErrRange},
		{"a text too long, and then 0", formula(1, append(slices.Clone(longText), []int{0})...), api.ErrRange},
		{"a text too long, and then a variable too great", formula(1, append(slices.Clone(longText), []int{-2})...), api.ErrRange},
		{"a clause with 0, and then one too long", formula(1, []int{0}, longClause), api.ErrRange},
		{"a clause too long, and then one with 0", formula(1, longClause, []int{0}), api.ErrLong},
		{"too many clauses, all of them with 0", formula(1, many(api.MaxClauses+1, 0)...), api.ErrLong},
	} {
		if s, e := Format(x.f); s != "" || e != x.want {
			t.Errorf("%s: Format = %d bytes, %d, want none, %d", x.name, len(s), e, x.want)
		}
		if check := cnf.Check(x.f); check != api.OK && check != x.want {
			t.Errorf("%s: Check says %d, not %d", x.name, check, x.want)
		}
	}
}

// padded returns n clauses 1, to which more literals 1 are added, from the clause at on.
func padded(n, at, more int) [][]int {
	clauses := many(n, 1)
	for more > 0 {
		added := min(more, api.MaxClause-1)
		clauses[at%n] = repeat(1, 1+added)
		at, more = at+1, more-added
	}
	return clauses
}

func TestFormatLength(t *testing.T) {
	const n = 10000
	const more = (api.MaxText - len("p cnf 1 10000\n") - n*len("1 0\n")) / len("1 ")
	for _, x := range []struct {
		vars, more, length int
		want               api.Errno
	}{
		{1, more - 1, api.MaxText - 2, api.OK},
		{10, more - 1, api.MaxText - 1, api.OK},
		{1, more, api.MaxText, api.OK},
		{10, more, 0, api.ErrLong},
		{1, more + 1, 0, api.ErrLong},
		{10, more + 1, 0, api.ErrLong},
	} {
		for _, at := range []int{0, n / 2, n - 1} {
			if s, e := Format(formula(x.vars, padded(n, at, x.more)...)); len(s) != x.length || e != x.want {
				t.Errorf("%d variables, %d literals more from the clause %d on: %d bytes, %d, want %d, %d", x.vars, x.more, at, len(s), e, x.length, x.want)
			}
		}
	}
	for n := 32757; n < 32763; n++ {
		want := api.OK
		if len(blown(n)) > api.MaxText {
			want = api.ErrLong
		}
		if s, e := Format(formula(0, many(n)...)); e != want || e == api.OK && s != blown(n) {
			t.Errorf("%d empty clauses: %d bytes, %d, want %d", n, len(s), e, want)
		}
	}
}

// P3.2

func TestParse(t *testing.T) {
	for _, x := range []struct {
		name, s string
		want    api.Formula
	}{
		{"the example", "p cnf 3 2\n1 -3 0\n0\n", formula(3, []int{1, -3}, nil)},
		{"a clause on two lines, with comments", "c x\np cnf 2 1\nc\n1\n2 0", formula(2, []int{1, 2})},
		{"nothing", "p cnf 0 0", formula(0)},
		{"nothing, and an end of the line", "p cnf 0 0\n", formula(0)},
		{"nothing, and lines without words", "\n\n p\tcnf 0 0 \n\n \t\n", formula(0)},
		{"no clauses", "p cnf 7 0", formula(7)},
		{"an empty clause without variables", "p cnf 0 1\n0", formula(0, nil)},
		{"several clauses on one line", "p cnf 2 4\n1 0 0 -2 1 0 2 0", formula(2, []int{1}, nil, []int{-2, 1}, []int{2})},
		{"a word on each line", "p cnf 2 2\n1\n-2\n0\n2\n0\n", formula(2, []int{1, -2}, []int{2})},
		{"a clause that ends where another one begins", "p cnf 2 2\n1\n0 2\n0", formula(2, []int{1}, []int{2})},
		{"literals as they stand", "p cnf 3 1\n3 3 -1 1 0", formula(3, []int{3, 3, -1, 1})},
		{"the greatest variable", "p cnf 12 1\n12 -12 0", formula(12, []int{12, -12})},
		{"the most variables", "p cnf 1048576 1\n1048576 -1048576 0", formula(api.MaxVars, []int{api.MaxVars, -api.MaxVars})},
		{"numbers with 0 in them", "p cnf 100 1\n10 -100 0", formula(100, []int{10, -100})},
	} {
		accepted(t, x.name, x.s, x.want)
	}
}

func TestParseHeader(t *testing.T) {
	huge := strings.Repeat("9", 40)
	for _, x := range []struct {
		s    string
		want api.Errno
	}{
		{"p cnf 2", api.ErrForm},
		{"p cnf", api.ErrForm},
		{"p", api.ErrForm},
		{"p cnf 2 -1", api.ErrForm},
		{"p cnf -2 1", api.ErrForm},
		{"p cnf 2 -0", api.ErrForm},
		{"p cnf -0 0", api.ErrForm},
		{"p cnf 2 0 0", api.ErrForm},
		{"p cnf 2 0 c", api.ErrForm},
		{"p cnf 2 0 x y z", api.ErrForm},
		{"p cnf 02 0", api.ErrForm},
		{"p cnf 2 00", api.ErrForm},
		{"p cnf +2 0", api.ErrForm},
		{"p cnf 2 +0", api.ErrForm},
		{"p cnf 2 x", api.ErrForm},
		{"p cnf x 0", api.ErrForm},
		{"p cnf 2. 0", api.ErrForm},
		{"p cnf 0x2 0", api.ErrForm},
		{"p cnf 1_0 0", api.ErrForm},
		{"p cnf 2 - 0", api.ErrForm},
		{"p cnf 2 -", api.ErrForm},
		{"p CNF 2 0", api.ErrForm},
		{"P cnf 2 0", api.ErrForm},
		{"pp cnf 2 0", api.ErrForm},
		{"p cnfs 2 0", api.ErrForm},
		{"p dnf 2 0", api.ErrForm},
		{"pcnf 2 0", api.ErrForm},
		{"cnf p 2 0", api.ErrForm},
		{"2 0 p cnf", api.ErrForm},
		{"p c 2 0", api.ErrForm},
		{"cc", api.ErrForm},
		{"C", api.ErrForm},
		{"p\vcnf 2 0", api.ErrForm},
		{"p cnf 2 0\r", api.ErrForm},
		{"p cnf 2\u00a00", api.ErrForm},
		{"p cnf 2 0\x00", api.ErrForm},
		{"p cnf 2 \xff", api.ErrForm},
		{"p cnf 2 \u0661", api.ErrForm},
		{"1 0", api.ErrForm},
		{"p cnf 1048577 0", api.ErrRange},
		{"p cnf 0 1048577", api.ErrLong},
		{"p cnf " + huge + " 0", api.ErrRange},
		{"p cnf 0 " + huge, api.ErrLong},
		{"p cnf 18446744073709551616 0", api.ErrRange},
		{"p cnf 18446744073709551617 0", api.ErrRange},
		{"p cnf 4294967297 0", api.ErrRange},
		{"p cnf 0 18446744073709551616", api.ErrLong},
		{"p cnf 0 9223372036854775808", api.ErrLong},
		{"p cnf " + strings.Repeat("9", 60000) + " 0", api.ErrRange},
		// Several errors at once.
		{"p cnf 1048577 1048577", api.ErrRange},
		{"p cnf " + huge + " " + huge, api.ErrRange},
		{"p cnf 1048577 -1", api.ErrForm},
		{"p cnf 1048577 x", api.ErrForm},
		{"p cnf 1048577 01", api.ErrForm},
		{"p cnf 1048577 1048577 0", api.ErrForm},
		{"p cnf 1048577", api.ErrForm},
		{"p cnf x 1048577", api.ErrForm},
		{"p cnf -1 1048577", api.ErrForm},
		{"p cnf " + huge + "x 0", api.ErrForm},
		{"p cnf -" + huge + " 0", api.ErrForm},
		{"p cnf 0" + huge + " 0", api.ErrForm},
		{"p dnf 1048577 1048577", api.ErrForm},
	} {
		refused(t, strconv.Quote(x.s), x.s, 1, x.want)
		refused(t, strconv.Quote(x.s)+" and more", x.s+"\n1 0 x", 1, x.want)
		refused(t, strconv.Quote(x.s)+" after comments", "c\n\n \t\nc p cnf 0 0\n"+x.s+"\np cnf 0 0\n", 5, x.want)
	}
}

func TestParseHeaderAtTheLimits(t *testing.T) {
	accepted(t, "the most variables", "p cnf 1048576 0", formula(api.MaxVars))
	accepted(t, "one less", "p cnf 1048575 0", formula(api.MaxVars-1))
	// No text has room for so many clauses, so what is missing is their end, not the header.
	refused(t, "the most clauses", "p cnf 1048576 1048576", 2, api.ErrForm)
	refused(t, "the most clauses, and one that ends", "p cnf 0 1048576\n0\n", 3, api.ErrForm)
}

func TestParseWords(t *testing.T) {
	for _, x := range []struct {
		name, s string
		line    int
		want    api.Errno
	}{
		{"a variable too great", "p cnf 2 1\n1 3 0", 2, api.ErrRange},
		{"a negative of a variable too great", "p cnf 2 1\n1 -3 0", 2, api.ErrRange},
		{"a literal without variables", "p cnf 0 1\n1 0", 2, api.ErrRange},
		{"a negative literal without variables", "p cnf 0 1\n-1 0", 2, api.ErrRange},
		{"more variables than there may be", "p cnf 1048576 1\n1048577 0", 2, api.ErrRange},
		{"the greatest int", "p cnf 2 1\n9223372036854775807 0", 2, api.ErrRange},
		{"the least int", "p cnf 2 1\n-9223372036854775808 0", 2, api.ErrRange},
		{"2^64", "p cnf 2 1\n18446744073709551616 0", 2, api.ErrRange},
		{"2^64 and 1", "p cnf 2 1\n18446744073709551617 0", 2, api.ErrRange},
		{"negative of 2^64 and 1", "p cnf 2 1\n-18446744073709551617 0", 2, api.ErrRange},
		{"2^32 and 1", "p cnf 2 1\n4294967297 0", 2, api.ErrRange},
		{"as many digits as may be", "p cnf 2 1\n" + strings.Repeat("1", api.MaxText-10), 2, api.ErrRange},
		{"no number", "p cnf 2 1\n1 x 0", 2, api.ErrForm},
		{"a leading zero", "p cnf 2 1\n1 02 0", 2, api.ErrForm},
		{"a leading zero of a negative", "p cnf 2 1\n-02 0", 2, api.ErrForm},
		{"-0", "p cnf 2 1\n1 -0", 2, api.ErrForm},
		{"00", "p cnf 2 1\n1 00", 2, api.ErrForm},
		{"+1", "p cnf 2 1\n+1 0", 2, api.ErrForm},
		{"+0", "p cnf 2 1\n1 +0", 2, api.ErrForm},
		{"-", "p cnf 2 1\n- 1 0", 2, api.ErrForm},
		{"--1", "p cnf 2 1\n--1 0", 2, api.ErrForm},
		{"1-", "p cnf 2 1\n1- 0", 2, api.ErrForm},
		{"1-2", "p cnf 2 1\n1-2 0", 2, api.ErrForm},
		{"1.0", "p cnf 2 1\n1.0 0", 2, api.ErrForm},
		{"1e0", "p cnf 2 1\n1e0 0", 2, api.ErrForm},
		{"0x1", "p cnf 2 1\n0x1 0", 2, api.ErrForm},
		{"1_0", "p cnf 20 1\n1_0 0", 2, api.ErrForm},
		{"c after a word", "p cnf 2 1\n1 c 0", 2, api.ErrForm},
		{"c after all words", "p cnf 2 1\n1 0 c", 2, api.ErrForm},
		{"a word that begins with c", "p cnf 2 1\nc1\n1 0", 2, api.ErrForm},
		{"p in the place of a literal", "p cnf 2 1\np\n1 0", 2, api.ErrForm},
		{"a second header", "p cnf 2 1\n1 0\np cnf 2 1\n1 0", 3, api.ErrForm},
		{"a carriage return", "p cnf 2 1\n1 0\r\n", 2, api.ErrForm},
		{"a carriage return alone on a line", "p cnf 2 1\n1\n\r\n0", 3, api.ErrForm},
		{"a vertical tab", "p cnf 2 1\n1\v0", 2, api.ErrForm},
		{"a form feed", "p cnf 2 1\n1\f0", 2, api.ErrForm},
		{"a blank of another kind", "p cnf 2 1\n1\u00a00", 2, api.ErrForm},
		{"a line separator of another kind", "p cnf 2 1\n1\u20280", 2, api.ErrForm},
		{"a byte that is no text", "p cnf 2 1\n1 \xff 0", 2, api.ErrForm},
		{"a byte 0", "p cnf 2 1\n1 0\x00", 2, api.ErrForm},
		{"a digit of another script", "p cnf 2 1\n\u0661 0", 2, api.ErrForm},
		{"the byte after the digits", "p cnf 2 1\n1: 0", 2, api.ErrForm},
		{"the byte before the digits", "p cnf 2 1\n1/ 0", 2, api.ErrForm},
		{"a word more", "p cnf 2 1\n1 0\n2 0", 3, api.ErrForm},
		{"a word more on the line", "p cnf 2 1\n1 0 2", 2, api.ErrForm},
		{"an end more", "p cnf 2 1\n1 0\n0", 3, api.ErrForm},
		{"a word without clauses", "p cnf 2 0\n\nc\n1", 4, api.ErrForm},
		{"an end without clauses", "p cnf 2 0\n0", 2, api.ErrForm},
		// Several errors at once: of a word.
		{"a variable too great after all clauses", "p cnf 2 1\n0 3", 2, api.ErrForm},
		{"no number after all clauses", "p cnf 2 1\n0 x", 2, api.ErrForm},
		{"a variable too great, and no number", "p cnf 2 1\n3x 0", 2, api.ErrForm},
		{"2^64, and no number", "p cnf 2 1\n18446744073709551616x 0", 2, api.ErrForm},
		{"2^64, and a leading zero", "p cnf 2 1\n018446744073709551616 0", 2, api.ErrForm},
		// Several errors at once: of words one after another.
		{"a variable too great, then no number", "p cnf 2 1\n3 x", 2, api.ErrRange},
		{"no number, then a variable too great", "p cnf 2 1\nx 3", 2, api.ErrForm},
		{"a variable too great, then no number on the next line", "p cnf 2 1\n1\n3\nx", 3, api.ErrRange},
		{"a variable too great, then a word more", "p cnf 2 1\n3 0 0", 2, api.ErrRange},
		{"a variable too great, and an end missing", "p cnf 2 2\n1 0\n-3\n", 3, api.ErrRange},
		{"no number, and an end missing", "p cnf 2 2\n1 0\n\nx\n", 4, api.ErrForm},
	} {
		refused(t, x.name, x.s, x.line, x.want)
	}
}

func TestParseLongClause(t *testing.T) {
	full := strings.Repeat("1 ", api.MaxClause)
	clause := repeat(1, api.MaxClause)
	accepted(t, "as many literals as there may be", "p cnf 1 1\n"+full+"0", formula(1, clause))
	accepted(t, "as many in two clauses", "p cnf 1 2\n"+full+"0 "+full+"\n0", formula(1, clause, clause))
	accepted(t, "as many, and then fewer", "p cnf 1 2\n"+full+"0 -1 0", formula(1, clause, []int{-1}))
	for _, x := range []struct {
		name, s string
		line    int
		want    api.Errno
	}{
		{"one more", "p cnf 1 1\n" + full + "1 0", 2, api.ErrLong},
		{"one more, negative", "p cnf 1 1\n" + full + "-1 0", 2, api.ErrLong},
		{"one more, on the next line", "p cnf 1 1\n" + full + "\nc\n1 0", 4, api.ErrLong},
		{"one more, without an end", "p cnf 1 1\n" + full + "1", 2, api.ErrLong},
		{"one more, in the second clause", "p cnf 1 2\n" + full + "0\n" + full + "1 0", 3, api.ErrLong},
		{"one more, on lines of their own", "p cnf 1 1\n" + strings.ReplaceAll(full, " ", "\n") + "1", api.MaxClause + 2, api.ErrLong},
		{"no end", "p cnf 1 1\n" + full, 3, api.ErrForm},
		// Several errors at once.
		{"one more, no number", "p cnf 1 1\n" + full + "x", 2, api.ErrForm},
		{"one more, with a leading zero", "p cnf 1 1\n" + full + "01", 2, api.ErrForm},
		{"one more, -0", "p cnf 1 1\n" + full + "-0", 2, api.ErrForm},
		{"one more, too great", "p cnf 1 1\n" + full + "2 0", 2, api.ErrRange},
		{"one more, its negative too great", "p cnf 1 1\n" + full + "-2 0", 2, api.ErrRange},
		{"one more, after all clauses", "p cnf 1 1\n" + full + "0 1", 2, api.ErrForm},
		{"one more, then no number", "p cnf 1 1\n" + full + "1 x", 2, api.ErrLong},
	} {
		refused(t, x.name, x.s, x.line, x.want)
	}
}

func TestParseEnd(t *testing.T) {
	for _, x := range []struct {
		s    string
		line int
	}{
		{"", 1},
		{"\n", 2},
		{"\n\n", 3},
		{" ", 2},
		{" \n", 2},
		{" \n\t", 3},
		{"c", 2},
		{"c\n", 2},
		{"c\nc", 3},
		{"c\nc\n", 3},
		{"c p cnf 0 0", 2},
		{"\tc\tp cnf 0 0\n\n", 3},
		{"p cnf 2 1", 2},
		{"p cnf 2 1\n", 2},
		{"p cnf 2 1\n\n", 3},
		{"p cnf 2 1\n1 2", 3},
		{"p cnf 2 1\n1 2\n", 3},
		{"p cnf 2 1\n1 2\n\n", 4},
		{"p cnf 2 1\n1 2\nc 0", 4},
		{"p cnf 2 1\n1 2\n c\t0\n", 4},
		{"p cnf 2 2\n1 2 0", 3},
		{"p cnf 2 2\n1 2 0 1", 3},
		{"p cnf 2 2\n1 2 0\n1\n", 4},
		{"p cnf 0 1", 2},
		{"p cnf 0 2\n0\n", 3},
	} {
		refused(t, strconv.Quote(x.s), x.s, x.line, api.ErrForm)
	}
}

func TestParseLongText(t *testing.T) {
	full := "p cnf 1 1\n1 0\n"
	fill := func(n int, with string) string { return full + strings.Repeat(with, n-len(full)) }
	for _, with := range []string{" ", "\t", "\n"} {
		accepted(t, "one byte less", fill(api.MaxText-1, with), formula(1, []int{1}))
		accepted(t, "as long as may be", fill(api.MaxText, with), formula(1, []int{1}))
		refused(t, "one byte more", fill(api.MaxText+1, with), 0, api.ErrLong)
	}
	accepted(t, "a comment as long as may be", full+"c "+strings.Repeat("x", api.MaxText-len(full)-2), formula(1, []int{1}))
	for _, s := range []string{
		full + "c " + strings.Repeat("x", api.MaxText-len(full)-1),
		strings.Repeat(" ", api.MaxText+1),
		strings.Repeat("\n", 2*api.MaxText),
		"x" + strings.Repeat(" ", api.MaxText),
		"p cnf 1048577 1\n" + strings.Repeat(" ", api.MaxText),
		"p cnf 1 1\n2\n" + strings.Repeat("\n", api.MaxText),
		"p cnf 1 1\n" + strings.Repeat("1 ", api.MaxText),
		blown(32762),
	} {
		refused(t, strconv.Quote(s[:20])+" .., too long", s, 0, api.ErrLong)
	}
	refused(t, "nothing, as long as may be", strings.Repeat("\n", api.MaxText), api.MaxText+1, api.ErrForm)
	refused(t, "blanks, as long as may be", strings.Repeat(" ", api.MaxText), 2, api.ErrForm)
	refused(t, "no words, and then a fault", strings.Repeat("\n", api.MaxText-1)+"x", api.MaxText, api.ErrForm)
	accepted(t, "the most clauses", blown(32760), formula(0, many(32760)...))
}

func TestParseAll(t *testing.T) {
	texts([]string{"p cnf 1 1", "p", "\n", " ", "c", "0", "1", "-"}, 6, func(s string) { compare(t, s) })
	for _, header := range []string{"p cnf 0 0", "p cnf 0 1\n", "\np cnf 1 1\n", "p cnf 2 2\n"} {
		texts([]string{"1", "-2 ", "0", " 0 ", "\n", "c ", "\t"}, 6, func(s string) { compare(t, header+s) })
	}
	texts([]string{"p", "cnf", " ", "0", "1048577", "-1", "x", "\n"}, 3, func(s string) {
		compare(t, "p cnf "+s)
		compare(t, s+" cnf 1 0")
		compare(t, "p cnf 1048577 "+s)
	})
}

func TestParseAllNumbers(t *testing.T) {
	texts([]string{"0", "1", "3", "8", "9", "-", "+", "a", "\u0661", "1048576"}, 4, func(s string) {
		compare(t, "p cnf 1048576 1\n"+s+" 0")
		compare(t, "p cnf 13 1\n"+s+" 0")
		compare(t, "p cnf "+s+" 0")
		compare(t, "p cnf 0 "+s)
	})
}

func TestParseAllBytes(t *testing.T) {
	for b := range 256 {
		c := string([]byte{byte(b)})
		for _, s := range []string{
			c, c + "c", "c" + c, "p" + c + "cnf 1 1\n1 0", "p cnf" + c + "1 1\n1 0", "p cnf 1 1" + c + "1 0", "p cnf 11 1\n1" + c + "1 0",
			"p cnf 1 1\n" + c + "1 0", "p cnf 1 1\n1 0" + c, "p cnf 1 1\n1 0\n" + c, "p cnf 1 1\n1 0\n" + c + " x", "p cnf 9 1\n" + c + " 0",
			"p cnf 99 1\n-" + c + " 0", "p cnf 99 1\n1" + c + " 0",
		} {
			compare(t, s)
		}
	}
}

// P3.3

func TestParseOfFormat(t *testing.T) {
	for _, f := range append(small(), odd()...) {
		s := text(t, f)
		g, line, e := Parse(s)
		if !cnf.Equal(f, g) || line != 0 || e != api.OK {
			t.Errorf("Parse of Format of %d variables and %d clauses, which begins with %q: %d, %d", f.Vars, len(f.Clauses), s[:min(len(s), 40)], line, e)
		}
	}
}

func TestParseReturnsValid(t *testing.T) {
	accepted := 0
	texts([]string{"1 ", "-2 ", "3 ", "0 ", "\n", "c "}, 6, func(s string) {
		f, _, e := Parse("p cnf 2 2\n" + s)
		if e != api.OK {
			return
		}
		accepted++
		if check := cnf.Check(f); check != api.OK || f.Vars != 2 || len(f.Clauses) != 2 {
			t.Errorf("Parse of the clauses %q = %d, of which Check says %d", s, f, check)
		}
	})
	if accepted == 0 {
		t.Error("no text is accepted")
	}
}

// P3.4

func TestLayoutMakesNoDifference(t *testing.T) {
	layouts := []struct{ before, blank, within, after string }{
		{"", " ", " ", ""},
		{"", " ", "\n", "\n"},
		{"\n", "\t", "\t", "\n\n"},
		{"c p cnf 9 9\n", " \t ", "\n\n", "\nc 1 2 0"},
		{"c\nc\n \t\n", "\t\t", "\nc 5 0\n", "\nc\n"},
		{" ", " ", " \n ", "\n \t"},
		{"\tc\tx\n\t", "  ", "\n \tc x\ty\n\t", "\t\n\n\nc"},
		{" c \xff\r\x00\n", " ", " \nc\n\nc \xff\n", " \nc \v"},
	}
	for _, f := range append(small(), odd()...) {
		if len(f.Clauses) > 100 || len(f.Clauses) == 1 && len(f.Clauses[0]) > 100 {
			continue
		}
		head, rest, _ := strings.Cut(text(t, f), "\n")
		for _, x := range layouts {
			s := x.before + strings.ReplaceAll(head, " ", x.blank)
			for w := range strings.FieldsSeq(rest) {
				// The header is one line, so what follows it must not be on it.
				if s == x.before+strings.ReplaceAll(head, " ", x.blank) {
					s += "\n" + w
				} else {
					s += x.within + w
				}
			}
			accepted(t, strconv.Quote(s), s+x.after, f)
		}
	}
}

func TestHeaderIsOneLine(t *testing.T) {
	for _, s := range []string{
		"p\ncnf 2 1\n1 0", "p cnf\n2 1\n1 0", "p cnf 2\n1\n1 0", "p cnf 2\nc\n1\n1 0", "p cnf 2 1 1 0", "p cnf 2 1 1 0\n", "p cnf 2 1 c\n1 0",
	} {
		refused(t, strconv.Quote(s), s, 1, api.ErrForm)
	}
}

// P3.5

func TestTextsOfFormulas(t *testing.T) {
	seen := map[string]int{}
	all := append(small(), odd()...)
	for i, f := range all {
		s := text(t, f)
		if j, ok := seen[s]; ok && !cnf.Equal(f, all[j]) {
			t.Errorf("%d and %d have the same text", f, all[j])
		}
		seen[s] = i
		if again := text(t, cnf.Copy(f)); again != s {
			t.Errorf("%d has two texts: %q and %q", f, s, again)
		}
	}
	for _, x := range [][2]api.Formula{
		{{}, {Clauses: [][]int{}}},
		{formula(2, nil, []int{1}), formula(2, []int{}, []int{1})},
	} {
		if a, b := text(t, x[0]), text(t, x[1]); a != b {
			t.Errorf("equal formulas have the texts %q and %q", a, b)
		}
	}
}

// P3.6

// cut returns a text without its last word that is in no comment.
func cut(s string) string {
	all := strings.Split(s, "\n")
	for i, text := range slices.Backward(all) {
		trimmed := strings.TrimRight(text, " \t")
		words := strings.FieldsFunc(trimmed, func(c rune) bool { return c == ' ' || c == '\t' })
		if len(words) > 0 && words[0] != "c" {
			all[i] = strings.TrimSuffix(trimmed, words[len(words)-1])
			return strings.Join(all, "\n")
		}
	}
	return s
}

func TestOneWordLessOrMore(t *testing.T) {
	check := func(s string) {
		if _, line, e := Parse(s); e != api.OK {
			t.Errorf("Parse(%q): %d, %d", s, line, e)
		}
		if _, _, e := Parse(cut(s)); e == api.OK {
			t.Errorf("Parse accepts %q, and without its last word, too", s)
		}
		if !strings.HasSuffix(s, "\n") {
			s += "\n"
		}
		for _, more := range []string{"0", "1", "-1 0", "x", "0 c", "cc", "p cnf 0 0", " 0 ", "\t1\n"} {
			if _, _, e := Parse(s + more); e == api.OK {
				t.Errorf("Parse accepts %q, and with %q, too", s, more)
			}
		}
	}
	for _, f := range small() {
		check(text(t, f))
	}
	for _, s := range []string{
		"p cnf 0 0", "p cnf 10 0\nc 1 0", "p cnf 2 1\n1\n2 0\nc 0\n\n", "c x\np cnf 2 2\n0 0 \t\nc\n c 0", "p cnf 2 2\n1\n0\n2\n0\n",
	} {
		check(s)
	}
}

// R1 to R6, for both of them

func TestResultsShareNoMemory(t *testing.T) {
	s := "p cnf 3 5\n1 2 0 0 -1 3 0 0 -2 -3 0"
	want := formula(3, []int{1, 2}, nil, []int{-1, 3}, nil, []int{-2, -3})
	for i := range want.Clauses {
		f, _, _ := Parse(s)
		changed := append(f.Clauses[i], 90, 91, 92)
		for j := range changed {
			changed[j] = 93
		}
		for j, c := range f.Clauses {
			if j != i && !slices.Equal(c, want.Clauses[j]) {
				t.Errorf("the clause %d changes with the clause %d", j, i)
			}
		}
	}
	f, _, _ := Parse(s)
	for _, c := range f.Clauses {
		for j := range c {
			c[j] = 94
		}
	}
	f.Clauses[1] = []int{95}
	accepted(t, "after changes of another result", s, want)
}

func TestArgumentsStay(t *testing.T) {
	room := append(make([]int, 0, 8), 3, -1, 3)
	clauses := append(make([][]int, 0, 8), room, nil, []int{-2, 1})
	f := api.Formula{Vars: 3, Clauses: clauses}
	text(t, f)
	if want := formula(3, []int{3, -1, 3}, nil, []int{-2, 1}); !cnf.Equal(f, want) {
		t.Error("the formula is now", f)
	}
	if !slices.Equal(room[:8], []int{3, -1, 3, 0, 0, 0, 0, 0}) {
		t.Error("a clause is now", room[:8])
	}
	for _, c := range clauses[3:8] {
		if c != nil {
			t.Error("behind the clauses there is now", c)
		}
	}
}

func TestCallsDoNotDependOnEachOther(t *testing.T) {
	for range 3 {
		refused(t, "an unfinished clause", "p cnf 2 1\n1 2", 3, api.ErrForm)
		accepted(t, "after an unfinished clause", "p cnf 2 1\n-1 0", formula(2, []int{-1}))
		refused(t, "no header", "-1 0", 1, api.ErrForm)
		if s, e := Format(formula(1, []int{2})); s != "" || e != api.ErrRange {
			t.Error("Format of an invalid formula:", s, e)
		}
		if s, e := Format(formula(1, []int{1})); s != "p cnf 1 1\n1 0\n" || e != api.OK {
			t.Error("Format after an invalid formula:", s, e)
		}
	}
}
