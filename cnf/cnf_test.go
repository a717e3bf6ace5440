package cnf

import (
	"math"
	"slices"
	"testing"

	"weephole/api"
	"weephole/lit"
)

func formula(vars int, clauses ...[]int) api.Formula {
	return api.Formula{Vars: vars, Clauses: clauses}
}

// example is the formula F of the chapter.
func example() api.Formula {
	return formula(3, []int{1, 2}, []int{-1, 3}, []int{-2, -3})
}

// many returns n clauses that have the same literals; they share memory.
func many(n int, c ...int) [][]int {
	return slices.Repeat([][]int{c}, n)
}

func repeat(x, n int) []int {
	return slices.Repeat([]int{x}, n)
}

// pool returns every clause of up to most literals of the variables 1 to vars.
func pool(vars, most int) [][]int {
	all := [][]int{{}}
	for from, length := 0, 1; length <= most; length++ {
		last := all[from:]
		from = len(all)
		for _, c := range last {
			for x := -vars; x <= vars; x++ {
				if x != 0 {
					all = append(all, append(slices.Clone(c), x))
				}
			}
		}
	}
	return all
}

// lists calls f with every list of up to most of the clauses of all.
func lists(all [][]int, most int, f func(clauses [][]int)) {
	var grow func(clauses [][]int)
	grow = func(clauses [][]int) {
		f(clauses)
		if len(clauses) == most {
			return
		}
		for _, c := range all {
			grow(append(slices.Clone(clauses), c))
		}
	}
	grow(nil)
}

// models returns every model of n variables.
func models(n int) [][]bool {
	var all [][]bool
	for bits := range 1 << n {
		m := make([]bool, n)
		for i := range m {
			m[i] = bits>>i&1 == 1
		}
		all = append(all, m)
	}
	return all
}

// index finds what First returns for a valid formula, from the definitions of S1.
func index(f api.Formula, m []bool) int {
	for i, c := range f.Clauses {
		holds := false
		for _, x := range c {
			if x > 0 && m[x-1] || x < 0 && !m[-x-1] {
				holds = true
			}
		}
		if !holds {
			return i
		}
	}
	return -1
}

// first returns what First returns, and fails the test if this is an error.
func first(t *testing.T, f api.Formula, m ...bool) int {
	t.Helper()
	i, e := First(f, m...)
	if e != api.OK {
		t.Fatalf("First(%d, %t): error %d", f, m, e)
	}
	return i
}

// P2.1

func TestCheck(t *testing.T) {
	for _, x := range []struct {
		name string
		f    api.Formula
		want api.Errno
	}{
		{"the example", example(), api.OK},
		{"the example with 2 variables", formula(2, example().Clauses...), api.ErrRange},
		{"the example with more variables", formula(4, example().Clauses...), api.OK},
		{"the example without variables", formula(0, example().Clauses...), api.ErrRange},
		{"the example with the clause 0", formula(3, append(example().Clauses, []int{0})...), api.ErrRange},
		{"nothing", formula(0), api.OK},
		{"nothing, an empty slice", api.Formula{Clauses: [][]int{}}, api.OK},
		{"no clauses", formula(5), api.OK},
		{"an empty clause", formula(0, []int{}), api.OK},
		{"a nil clause", formula(0, nil), api.OK},
		{"empty clauses between others", formula(1, []int{1}, nil, []int{-1}, []int{}), api.OK},
		{"a clause that always holds", formula(1, []int{1, -1}), api.OK},
		{"a literal several times", formula(2, []int{2, 2, 2}), api.OK},
		{"a clause several times", formula(2, []int{2}, []int{2}), api.OK},
		{"the greatest variable", formula(3, []int{3}, []int{-3}), api.OK},
		{"a variable too great", formula(3, []int{4}), api.ErrRange},
		{"a negative of a variable too great", formula(3, []int{-4}), api.ErrRange},
		{"0 in the first clause", formula(3, []int{0}, []int{1}, []int{2}), api.ErrRange},
		{"0 in a clause between others", formula(3, []int{1}, []int{1, 0}, []int{2}), api.ErrRange},
		{"0 in the last clause", formula(3, []int{1}, []int{2}, []int{1, 2, 0}), api.ErrRange},
		{"a literal without variables", formula(0, []int{}, []int{1}), api.ErrRange},
		{"the greatest number", formula(3, []int{math.MaxInt}), api.ErrRange},
		{"the least number", formula(3, []int{math.MinInt}), api.ErrRange},
		{"the least number, all variables", formula(api.MaxVars, []int{math.MinInt}), api.ErrRange},
	} {
		if e := Check(x.f); e != x.want {
			t.Errorf("%s: Check = %d, want %d", x.name, e, x.want)
		}
	}
}

func TestCheckCountOfVariables(t *testing.T) {
	for _, n := range []int{0, 1, 2, api.MaxVars - 1, api.MaxVars} {
		if e := Check(formula(n)); e != api.OK {
			t.Errorf("%d variables: %d", n, e)
		}
		if n == 0 {
			continue
		}
		if e := Check(formula(n, []int{n, -n}, []int{-n})); e != api.OK {
			t.Errorf("the last of %d variables: %d", n, e)
		}
		if e := Check(formula(n, []int{n}, []int{n + 1})); e != api.ErrRange {
			t.Errorf("one after %d variables: %d", n, e)
		}
	}
	for _, n := range []int{-1, -2, -api.MaxVars, api.MaxVars + 1, math.MinInt, math.MaxInt, 1 << 32, -1 << 32} {
		for _, clauses := range [][][]int{nil, {{}}, {{1}}} {
			if e := Check(formula(n, clauses...)); e != api.ErrRange {
				t.Errorf("%d variables and the clauses %d: %d", n, clauses, e)
			}
		}
	}
}

func TestCheckCountOfClauses(t *testing.T) {
	for _, c := range [][]int{nil, {1}, {-1, 2}} {
		for _, n := range []int{api.MaxClauses - 1, api.MaxClauses} {
			if e := Check(formula(2, many(n, c...)...)); e != api.OK {
				t.Errorf("%d clauses %d: %d", n, c, e)
			}
		}
		for _, n := range []int{api.MaxClauses + 1, api.MaxClauses + 100} {
			if e := Check(formula(2, many(n, c...)...)); e != api.ErrLong {
				t.Errorf("%d clauses %d: %d", n, c, e)
			}
		}
	}
	full := many(api.MaxClauses, 1)
	full[api.MaxClauses-1] = []int{2, 3}
	if e := Check(formula(2, full...)); e != api.ErrRange {
		t.Error("the last of all clauses is not valid:", e)
	}
}

func TestCheckLengthOfClauses(t *testing.T) {
	fits, long := repeat(-2, api.MaxClause), repeat(-2, api.MaxClause+1)
	for _, x := range []struct {
		name    string
		clauses [][]int
		want    api.Errno
	}{
		{"as many literals as there may be", [][]int{fits}, api.OK},
		{"as many in each of several", [][]int{fits, fits, {1}, fits}, api.OK},
		{"one more", [][]int{long}, api.ErrLong},
		{"one more, in the first clause", [][]int{long, {1}}, api.ErrLong},
		{"one more, between others", [][]int{{1}, long, fits}, api.ErrLong},
		{"one more, in the last clause", [][]int{fits, {1}, long}, api.ErrLong},
		{"far more", [][]int{repeat(1, 10*api.MaxClause)}, api.ErrLong},
	} {
		if e := Check(formula(2, x.clauses...)); e != x.want {
			t.Errorf("%s: %d, want %d", x.name, e, x.want)
		}
	}
}

func TestCheckOrderOfErrors(t *testing.T) {
	long, bad := repeat(1, api.MaxClause+1), []int{0}
	longBad := append(repeat(1, api.MaxClause), 0)
	tooMany := many(api.MaxClauses+1, 0)
	for _, x := range []struct {
		name string
		f    api.Formula
		want api.Errno
	}{
		{"too few variables, too many clauses", formula(-1, tooMany...), api.ErrRange},
		{"too many variables, too many clauses", formula(api.MaxVars+1, tooMany...), api.ErrRange},
		{"too few variables, a clause too long", formula(-1, long), api.ErrRange},
		{"too many variables, a clause too long", formula(api.MaxVars+1, long), api.ErrRange},
		{"too many clauses, all of them with 0", formula(1, tooMany...), api.ErrLong},
		{"too many clauses, the last with 0", formula(1, append(many(api.MaxClauses, 1), bad)...), api.ErrLong},
		{"too many clauses, the first with 0", formula(1, append([][]int{bad}, many(api.MaxClauses, 1)...)...), api.ErrLong},
		{"a clause too long, then one with 0", formula(1, []int{1}, long, bad), api.ErrLong},
		{"a clause with 0, then one too long", formula(1, []int{1}, bad, long), api.ErrRange},
		{"a clause with 0, then valid ones and one too long", formula(1, bad, []int{1}, nil, long), api.ErrRange},
		{"a clause too long, then valid ones and one with 0", formula(1, long, []int{1}, nil, bad), api.ErrLong},
		{"a clause too long with 0", formula(1, longBad), api.ErrLong},
		{"a clause too long without variables", formula(0, long), api.ErrLong},
		{"a variable too great, then a clause too long", formula(1, []int{1, 2}, long), api.ErrRange},
	} {
		if e := Check(x.f); e != x.want {
			t.Errorf("%s: %d, want %d", x.name, e, x.want)
		}
	}
}

func TestCheckIsThatOfTheClauses(t *testing.T) {
	for vars := range 3 {
		for _, c := range append(pool(3, 2), []int{0}, []int{1, 0}, []int{0, -1}) {
			want := lit.Check(vars, c...)
			for _, clauses := range [][][]int{{c}, {nil, c}, {c, nil}, {c, c}} {
				if e := Check(formula(vars, clauses...)); e != want {
					t.Errorf("Check of %d variables and %d: %d, want %d", vars, clauses, e, want)
				}
			}
		}
	}
}

// P2.2

func TestFirst(t *testing.T) {
	for _, x := range []struct {
		name string
		f    api.Formula
		m    []bool
		want int
	}{
		{"all hold", example(), []bool{true, false, true}, -1},
		{"all hold in another model", example(), []bool{false, true, false}, -1},
		{"the first one does not", example(), []bool{false, false, false}, 0},
		{"the first one does not, whatever follows", formula(2, []int{1}, []int{2}), []bool{false, false}, 0},
		{"the one between does not", example(), []bool{true, false, false}, 1},
		{"the last one does not", example(), []bool{true, true, true}, 2},
		{"the first of two that do not", formula(2, []int{1}, []int{-1, 2}, []int{2}), []bool{true, false}, 1},
		{"no variables and no clauses", formula(0), nil, -1},
		{"no variables and no clauses, empty slices", api.Formula{Clauses: [][]int{}}, []bool{}, -1},
		{"no clauses", formula(2), []bool{false, true}, -1},
		{"only an empty clause", formula(0, []int{}), nil, 0},
		{"only a nil clause", formula(0, nil), nil, 0},
		{"an empty clause after others", formula(1, []int{1}, []int{1, 1}, []int{}), []bool{true}, 2},
		{"an empty clause after one that does not hold", formula(1, []int{1}, []int{}), []bool{false}, 0},
		{"two empty clauses", formula(1, []int{1}, nil, nil), []bool{true}, 1},
		{"a clause that always holds", formula(1, []int{1, -1}), []bool{false}, -1},
		{"the last literal holds", formula(3, []int{1, 2, 3}), []bool{false, false, true}, -1},
		{"a clause several times", formula(1, []int{-1}, []int{-1}), []bool{true}, 0},
		{"a variable that is in no clause", formula(2, []int{1}), []bool{true, false}, -1},
	} {
		if i, e := First(x.f, x.m...); i != x.want || e != api.OK {
			t.Errorf("%s: First = %d, %d, want %d", x.name, i, e, x.want)
		}
	}
}

func TestFirstErrors(t *testing.T) {
	long := repeat(1, api.MaxClause+1)
	for _, x := range []struct {
		name string
		f    api.Formula
		m    []bool
		want api.Errno
	}{
		{"too few values", example(), []bool{true}, api.ErrArg},
		{"one too few", example(), []bool{true, false}, api.ErrArg},
		{"one too many", example(), []bool{true, false, true, false}, api.ErrArg},
		{"no values", example(), nil, api.ErrArg},
		{"no values, an empty slice", example(), []bool{}, api.ErrArg},
		{"a value for no variables", formula(0), []bool{true}, api.ErrArg},
		{"too few values for the variables, enough for the clauses", formula(2, []int{1}), []bool{true}, api.ErrArg},
		{"too few values, an empty clause", formula(1, []int{}), nil, api.ErrArg},
		{"too few values, no clauses", formula(1), nil, api.ErrArg},
		{"too many values, no clauses", formula(1), []bool{true, true}, api.ErrArg},
		{"too few values for the most variables", formula(api.MaxVars), make([]bool, api.MaxVars-1), api.ErrArg},
		{"too many values for the most variables", formula(api.MaxVars), make([]bool, api.MaxVars+1), api.ErrArg},
		{"0", formula(1, []int{0}), []bool{true}, api.ErrRange},
		{"0 after a clause that does not hold", formula(1, []int{1}, []int{0}), []bool{false}, api.ErrRange},
		{"0 after an empty clause", formula(1, []int{}, []int{0}), []bool{false}, api.ErrRange},
		{"0 after a literal that holds", formula(1, []int{1, 0}), []bool{true}, api.ErrRange},
		{"a variable too great", formula(1, []int{2}), []bool{true}, api.ErrRange},
		{"a variable too great, with a value for it", formula(1, []int{2}), []bool{true, true}, api.ErrRange},
		{"too few variables", formula(-1), nil, api.ErrRange},
		{"the fewest variables", formula(math.MinInt), nil, api.ErrRange},
		{"too many variables, a value for each", formula(api.MaxVars + 1), make([]bool, api.MaxVars+1), api.ErrRange},
		{"a clause too long", formula(1, long), []bool{true}, api.ErrLong},
		{"too many clauses", formula(1, many(api.MaxClauses+1, 1)...), []bool{true}, api.ErrLong},
		{"a clause too long and too few values", formula(1, long), nil, api.ErrLong},
		{"0 and too many values", formula(1, []int{0}), []bool{true, true}, api.ErrRange},
		{"too many clauses and too few values", formula(1, many(api.MaxClauses+1, 1)...), nil, api.ErrLong},
		{"too few variables, too many clauses and a value", formula(-1, many(api.MaxClauses+1, 1)...), []bool{true}, api.ErrRange},
	} {
		if i, e := First(x.f, x.m...); i != 0 || e != x.want {
			t.Errorf("%s: First = %d, %d, want 0, %d", x.name, i, e, x.want)
		}
	}
}

func TestFirstAll(t *testing.T) {
	lists(pool(2, 2), 3, func(clauses [][]int) {
		f := formula(2, clauses...)
		for _, m := range models(2) {
			if i, e := First(f, m...); i != index(f, m) || e != api.OK {
				t.Errorf("First(%d, %t) = %d, %d, want %d", f, m, i, e, index(f, m))
			}
		}
	})
	lists(pool(3, 2), 2, func(clauses [][]int) {
		f := formula(3, clauses...)
		for _, m := range models(3) {
			if i, e := First(f, m...); i != index(f, m) || e != api.OK {
				t.Errorf("First(%d, %t) = %d, %d, want %d", f, m, i, e, index(f, m))
			}
		}
	})
}

func TestFirstAtTheLimits(t *testing.T) {
	f := formula(api.MaxVars, many(api.MaxClauses, 1, -api.MaxVars)...)
	m := make([]bool, api.MaxVars)
	m[api.MaxVars-1] = true
	if i := first(t, f, m...); i != 0 {
		t.Error("no clause holds, but First is", i)
	}
	m[api.MaxVars-1] = false
	if i := first(t, f, m...); i != -1 {
		t.Error("all clauses hold, but First is", i)
	}
	f.Clauses[api.MaxClauses-1] = []int{api.MaxVars}
	if i := first(t, f, m...); i != api.MaxClauses-1 {
		t.Error("the last of all clauses does not hold, but First is", i)
	}
	c := repeat(-1, api.MaxClause)
	if i := first(t, formula(1, c), true); i != 0 {
		t.Error("no literal of a long clause holds, but First is", i)
	}
	c[api.MaxClause-1] = 1
	if i := first(t, formula(1, c), true); i != -1 {
		t.Error("the last literal of a long clause holds, but First is", i)
	}
}

// P2.3

// anyFormulas returns formulas of which no two are equal, some of them not valid.
func anyFormulas() []api.Formula {
	return []api.Formula{
		example(),
		formula(3, []int{2, 1}, []int{-1, 3}, []int{-2, -3}),
		formula(3, []int{1, 2}, []int{-2, -3}, []int{-1, 3}),
		formula(3, []int{1, 2}, []int{-1, 3}, []int{-2, 3}),
		formula(3, []int{1, 2}, []int{-1, 3}),
		formula(3, []int{-1, 3}, []int{-2, -3}),
		formula(3, []int{1, 2}, []int{-1, 3}, []int{-2}),
		formula(3, []int{1, 2}, []int{-1, 3}, []int{-2, -3, -3}),
		formula(3, []int{1, 2}, []int{-1, 3}, []int{-2, -3}, []int{-2, -3}),
		formula(3, []int{1, 2}, []int{-1, 3}, []int{-2, -3}, nil),
		formula(3, nil, []int{1, 2}, []int{-1, 3}, []int{-2, -3}),
		formula(3, []int{1, 2, -1, 3}, []int{-2, -3}),
		formula(3, []int{1, 2}, []int{-1}, []int{3, -2, -3}),
		formula(4, example().Clauses...),
		formula(2, example().Clauses...),
		formula(0),
		formula(1),
		formula(0, nil),
		formula(0, nil, nil),
		formula(-1),
		formula(math.MinInt, []int{1}),
		formula(math.MaxInt, []int{1}),
		formula(api.MaxVars+1, []int{1}),
		formula(1, []int{1}),
		formula(1, []int{-1}),
		formula(1, []int{0}),
		formula(1, []int{0, 0}),
		formula(1, []int{1, 1}),
		formula(1, []int{math.MinInt, math.MaxInt}),
		formula(1, []int{math.MaxInt, math.MinInt}),
		formula(1, []int{1<<32 + 1}),
		formula(1, repeat(1, api.MaxClause)),
		formula(1, repeat(1, api.MaxClause+1)),
		formula(1, many(api.MaxClauses, 1)...),
		formula(1, many(api.MaxClauses+1, 1)...),
		formula(1, append(many(api.MaxClauses, 1), []int{-1})...),
	}
}

func TestEqual(t *testing.T) {
	as, bs := anyFormulas(), anyFormulas()
	for i, a := range as {
		for j, b := range bs {
			if Equal(a, b) != (i == j) {
				t.Errorf("Equal of the formulas %d and %d: %t", i, j, i != j)
			}
		}
	}
}

func TestEqualOfNilAndEmpty(t *testing.T) {
	for _, x := range [][2]api.Formula{
		{{}, {Clauses: [][]int{}}},
		{formula(2, nil), formula(2, []int{})},
		{formula(2, []int{1}, nil, []int{}), formula(2, []int{1}, []int{}, nil)},
		{formula(-1, nil), formula(-1, []int{})},
	} {
		if !Equal(x[0], x[1]) || !Equal(x[1], x[0]) {
			t.Errorf("Equal(%#v, %#v) = false", x[0], x[1])
		}
	}
	if Equal(formula(0), formula(0, []int{})) {
		t.Error("no clauses are not one empty clause")
	}
}

func TestEqualOfTheSameMemory(t *testing.T) {
	f := example()
	if !Equal(f, f) {
		t.Error("a formula is not equal to itself")
	}
	if g := (api.Formula{Vars: f.Vars, Clauses: f.Clauses[:2]}); Equal(f, g) || Equal(g, f) {
		t.Error("a formula is equal to its beginning")
	}
	c := []int{1, 2, 3}
	if Equal(formula(3, c), formula(3, c[:2])) || Equal(formula(3, c[:2]), formula(3, c)) {
		t.Error("a clause is equal to its beginning")
	}
}

func TestCopyIsEqual(t *testing.T) {
	for i, f := range anyFormulas() {
		c := Copy(f)
		if !Equal(c, f) || !Equal(f, c) {
			t.Errorf("a copy of the formula %d is not equal to it", i)
		}
		if c.Vars != f.Vars || !slices.EqualFunc(c.Clauses, f.Clauses, slices.Equal[[]int]) {
			t.Errorf("a copy of the formula %d has other variables or clauses", i)
		}
	}
	for _, f := range []api.Formula{{}, {Clauses: [][]int{}}, {Vars: 1, Clauses: [][]int{nil, {}}}} {
		if c := Copy(f); !Equal(c, f) || len(c.Clauses) != len(f.Clauses) {
			t.Errorf("a copy of %#v is %#v", f, c)
		}
	}
}

func TestCopyIsIndependent(t *testing.T) {
	f := formula(3, []int{1, 2}, nil, []int{-1, 3}, []int{-2, -3})
	want := formula(3, []int{1, 2}, nil, []int{-1, 3}, []int{-2, -3})
	c := Copy(f)
	f.Clauses[0][0] = 77
	f.Clauses[2] = append(f.Clauses[2][:1], 78)
	f.Clauses[3] = []int{79}
	f.Vars = 9
	if !Equal(c, want) {
		t.Error("the copy follows changes of the formula:", c)
	}
	f = Copy(want)
	d := Copy(f)
	for i := range d.Clauses {
		for j := range d.Clauses[i] {
			d.Clauses[i][j] = 80
		}
	}
	d.Clauses[1] = []int{81}
	d.Clauses = append(d.Clauses[:1], d.Clauses[3])
	if !Equal(f, want) {
		t.Error("the formula follows changes of the copy:", f)
	}
	if !Equal(c, want) {
		t.Error("one copy follows changes of another one:", c)
	}
}

func TestCopySharesNoMemoryInside(t *testing.T) {
	whole := []int{1, 2, 3, -1, -2, -3}
	for _, f := range []api.Formula{
		formula(3, []int{1, 2}, nil, []int{-1, 3}, []int{}, []int{-2, -3}),
		formula(3, whole[:3], whole[3:], whole[1:4], whole, whole),
		{Vars: 3, Clauses: many(4, 1, 2)[:3]},
		formula(0, many(50)...),
	} {
		want := Copy(f)
		for i := range f.Clauses {
			c := Copy(f)
			changed := append(c.Clauses[i], 90, 91, 92)
			for j := range changed {
				changed[j] = 93
			}
			for j, other := range c.Clauses {
				if j != i && !slices.Equal(other, want.Clauses[j]) {
					t.Errorf("the clause %d of a copy changes with the clause %d", j, i)
				}
			}
			more := append(c.Clauses, []int{94})
			more[0] = []int{95}
			if !Equal(f, want) {
				t.Errorf("the formula changes with the clause %d of its copy", i)
			}
		}
	}
}

// P2.4

func TestNoClausesAndEmptyClauses(t *testing.T) {
	for n := range 4 {
		for _, m := range models(n) {
			if i := first(t, formula(n), m...); i != -1 {
				t.Errorf("no clauses, but First is %d in %t", i, m)
			}
		}
	}
	lists(pool(2, 1), 3, func(clauses [][]int) {
		for at := range len(clauses) + 1 {
			f := formula(2, slices.Insert(slices.Clone(clauses), at, nil)...)
			for _, m := range models(2) {
				if i := first(t, f, m...); i < 0 || i > at {
					t.Errorf("First(%d, %t) = %d, but the clause %d is empty", f, m, i, at)
				}
			}
		}
	})
}

// P2.5

func TestClausesAppended(t *testing.T) {
	lists(pool(2, 2), 2, func(clauses [][]int) {
		for _, more := range [][][]int{{{1}}, {{-1}, {2}}, {{1, -1}, {}}, {{2, 1}, {-2}, {-1}}} {
			f := formula(2, clauses...)
			g := formula(2, slices.Concat(clauses, more)...)
			for _, m := range models(2) {
				before, after := first(t, f, m...), first(t, g, m...)
				isNew := before == -1 && after >= len(clauses) && after < len(clauses)+len(more)
				if after != before && !isNew {
					t.Errorf("First(%d, %t) = %d, and with %d appended %d", f, m, before, more, after)
				}
			}
		}
	})
}

// P2.6

func TestNormInPlaceOfClauses(t *testing.T) {
	lists(pool(2, 3), 2, func(clauses [][]int) {
		var normal [][]int
		for _, c := range clauses {
			if n, always := lit.Norm(c...); !always {
				normal = append(normal, n)
			}
		}
		f, g := formula(2, clauses...), formula(2, normal...)
		for _, m := range models(2) {
			if a, b := first(t, f, m...), first(t, g, m...); (a == -1) != (b == -1) {
				t.Errorf("First(%d, %t) = %d, but First(%d, %t) = %d", f, m, a, g, m, b)
			}
		}
	})
}

// P2.7

func TestVariableMore(t *testing.T) {
	lists(pool(2, 2), 2, func(clauses [][]int) {
		f, g := formula(2, clauses...), formula(3, clauses...)
		for _, m := range models(2) {
			want := first(t, f, m...)
			for _, value := range []bool{false, true} {
				if i := first(t, g, append(m, value)...); i != want {
					t.Errorf("First(%d, %t) = %d, but with one variable more, %t, it is %d", f, m, want, value, i)
				}
			}
		}
	})
}

// R3 and R6, for all of them

func TestArgumentsStay(t *testing.T) {
	room := make([]int, 0, 8)
	clauses := append(make([][]int, 0, 8), append(room, 3, -1, 3), nil, []int{-2, 1})
	f := api.Formula{Vars: 3, Clauses: clauses}
	m := append(make([]bool, 0, 8), true, false, true)
	Check(f)
	First(f, m...)
	Equal(f, f)
	Copy(f)
	if want := formula(3, []int{3, -1, 3}, nil, []int{-2, 1}); !Equal(f, want) {
		t.Error("the formula is now", f)
	}
	if !slices.Equal(m[:8], []bool{true, false, true, false, false, false, false, false}) {
		t.Error("the model is now", m[:8])
	}
	if !slices.Equal(room[:8], []int{3, -1, 3, 0, 0, 0, 0, 0}) {
		t.Error("a clause is now", room[:8])
	}
	for _, c := range clauses[3:8] {
		if c != nil {
			t.Error("behind the clauses there is now", c)
		}
	}
}

func TestCallsDoNotDependOnEachOther(t *testing.T) {
	for range 3 {
		if e := Check(formula(1, []int{2})); e != api.ErrRange {
			t.Error("Check of an invalid formula:", e)
		}
		if e := Check(formula(2, []int{2})); e != api.OK {
			t.Error("Check after an invalid formula:", e)
		}
		if i, e := First(formula(1, []int{1}), false); i != 0 || e != api.OK {
			t.Error("First of a clause that does not hold:", i, e)
		}
		if i, e := First(formula(1, []int{1})); i != 0 || e != api.ErrArg {
			t.Error("First without values:", i, e)
		}
		if i, e := First(formula(1, []int{1}), true); i != -1 || e != api.OK {
			t.Error("First of a clause that holds:", i, e)
		}
		if Equal(formula(1), formula(2)) || !Equal(formula(1), formula(1)) {
			t.Error("Equal after other formulas")
		}
	}
}
