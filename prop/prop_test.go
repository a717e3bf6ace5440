package prop

import (
	"math"
	"math/rand"
	"slices"
	"testing"

	"weephole/api"
	"weephole/cnf"
	"weephole/lit"
)

func formula(vars int, clauses ...[]int) api.Formula {
	return api.Formula{Vars: vars, Clauses: clauses}
}

// example is the formula F of the chapter.
func example() api.Formula {
	return formula(3, []int{1, 2}, []int{-1, 3}, []int{-2, -3})
}

// many returns n clauses that have the same literals; they share memory.
func many(n int, c ...int) [][]int {
	return slices.Repeat([][]int{c}, n)
}

func repeat(x, n int) []int {
	return slices.Repeat([]int{x}, n)
}

// span returns the literals from one to another, without 0.
func span(from, to int) []int {
	var list []int
	for x := from; x <= to; x++ {
		if x != 0 {
			list = append(list, x)
		}
	}
	return list
}

// pool returns every list of up to most literals of the variables 1 to vars.
func pool(vars, most int) [][]int {
	all := [][]int{{}}
	for from, length := 0, 1; length <= most; length++ {
		last := all[from:]
		from = len(all)
		for _, c := range last {
			for _, x := range span(-vars, vars) {
				all = append(all, append(slices.Clone(c), x))
			}
		}
	}
	return all
}

// lists calls f with every list of up to most of the clauses of all.
func lists(all [][]int, most int, f func(clauses [][]int)) {
	var grow func(clauses [][]int)
	grow = func(clauses [][]int) {
		f(clauses)
		if len(clauses) == most {
			return
		}
		for _, c := range all {
			grow(append(slices.Clone(clauses), c))
		}
	}
	grow(nil)
}

// models returns every model of n variables.
func models(n int) [][]bool {
	var all [][]bool
	for bits := range 1 << n {
		m := make([]bool, n)
		for i := range m {
			m[i] = bits>>i&1 == 1
		}
		all = append(all, m)
	}
	return all
}

// expected finds what Units returns for valid arguments, from the definition: by looking at all clauses until nothing more follows.
func expected(f api.Formula, assume []int) ([]int, bool) {
	known := map[int]bool{}
	for _, x := range assume {
		known[x] = true
	}
	for more := true; more; {
		more = false
		for _, c := range f.Clauses {
			left := map[int]bool{}
			for _, x := range c {
				if !known[-x] {
					left[x] = true
				}
			}
			if len(left) == 0 {
				return nil, true
			}
			for x := range left {
				if len(left) == 1 && !known[x] {
					known[x], more = true, true
				}
			}
		}
	}
	var list []int
	for v := 1; v <= f.Vars; v++ {
		switch {
		case known[v] && known[-v]:
			return nil, true
		case known[v]:
			list = append(list, v)
		case known[-v]:
			list = append(list, -v)
		}
	}
	return list, false
}

// units returns what Units returns, and fails the test if this is an error, or has literals though it fails.
func units(t *testing.T, f api.Formula, assume ...int) ([]int, bool) {
	t.Helper()
	list, fails, e := Units(f, assume...)
	if e != api.OK {
		t.Fatalf("Units(%d; %d): error %d", f, assume, e)
	}
	if fails && len(list) > 0 {
		t.Fatalf("Units(%d; %d) fails with the literals %d", f, assume, list)
	}
	return list, fails
}

// random calls f with formulas and assumptions that are larger than those of which there are all, always the same ones.
func random(f func(r *rand.Rand, g api.Formula, assume []int)) {
	r := rand.New(rand.NewSource(4))
	for range 4000 {
		vars := 1 + r.Intn(12)
		literal := func() int { return (1 + r.Intn(vars)) * (1 - 2*r.Intn(2)) }
		clauses := make([][]int, r.Intn(4*vars))
		for i := range clauses {
			// Seldom short, so that what follows does so from long clauses.
			c := make([]int, 1+r.Intn(2+r.Intn(6)))
			for j := range c {
				c[j] = literal()
			}
			if len(c) == 1 && r.Intn(3) > 0 {
				c = append(c, literal(), literal())
			}
			clauses[i] = c
		}
		assume := make([]int, r.Intn(4))
		for i := range assume {
			assume[i] = literal()
		}
		f(r, formula(vars, clauses...), assume)
	}
}

// P4.1

func TestUnits(t *testing.T) {
	f := example()
	for _, x := range []struct {
		name   string
		f      api.Formula
		assume []int
		want   []int
		fails  bool
	}{
		{"the example", f, nil, nil, false},
		{"the example with 1", f, []int{1}, []int{1, -2, 3}, false},
		{"the example with -1", f, []int{-1}, []int{-1, 2, -3}, false},
		{"the example with 2", f, []int{2}, []int{-1, 2, -3}, false},
		{"the example with -3", f, []int{-3}, []int{-1, 2, -3}, false},
		{"the example with two that agree", f, []int{-2, 3}, []int{1, -2, 3}, false},
		{"the example with two that do not", f, []int{1, 2}, nil, true},
		{"the example with a literal and its negative", f, []int{1, -1}, nil, true},
		{"the example with a literal twice", f, []int{1, 1}, []int{1, -2, 3}, false},
		{"the example with all", f, []int{3, -2, 1}, []int{1, -2, 3}, false},
		{"nothing", formula(0), nil, nil, false},
		{"nothing, empty slices", api.Formula{Clauses: [][]int{}}, []int{}, nil, false},
		{"no clauses", formula(3), nil, nil, false},
		{"no clauses, in order", formula(4), []int{-3, 4, -1}, []int{-1, -3, 4}, false},
		{"no clauses, a literal and its negative", formula(4), []int{3, 1, -3}, nil, true},
		{"no clauses, a negative and its literal", formula(4), []int{-3, 3}, nil, true},
		{"an empty clause, no variables", formula(0, []int{}), nil, nil, true},
		{"a nil clause, no variables", formula(0, nil), nil, nil, true},
		{"an empty clause after others", formula(2, []int{1, 2}, nil), nil, nil, true},
		{"an empty clause before others", formula(2, nil, []int{1, 2}), []int{1}, nil, true},
		{"one literal", formula(2, []int{-2}), nil, []int{-2}, false},
		{"one literal, assumed", formula(2, []int{-2}), []int{-2}, []int{-2}, false},
		{"one literal, its negative assumed", formula(2, []int{-2}), []int{2}, nil, true},
		{"one literal and its negative, as clauses", formula(1, []int{1}, []int{-1}), nil, nil, true},
		{"a literal twice counts as one", formula(1, []int{1, 1}), nil, []int{1}, false},
		{"a literal twice, and its negative twice", formula(1, []int{1, 1}, []int{-1, -1}), nil, nil, true},
		{"a literal twice, and another one", formula(2, []int{1, 1, 2}), nil, nil, false},
		{"a literal twice, the other one false", formula(2, []int{1, 1, 2}), []int{-2}, []int{1, -2}, false},
		{"a literal twice, apart", formula(2, []int{1, 2, 1}), []int{-2}, []int{1, -2}, false},
		{"a literal twice, false", formula(2, []int{1, 2, 1}), []int{-1}, []int{-1, 2}, false},
		{"a clause that always holds", formula(2, []int{1, -1}), []int{-2}, []int{-2}, false},
		{"one that always holds, with its literal", formula(1, []int{1, -1}), []int{1}, []int{1}, false},
		{"one that always holds, with its negative", formula(1, []int{1, -1}), []int{-1}, []int{-1}, false},
		{"one that always holds, another one left", formula(2, []int{1, -1, 2}), []int{-2, 1}, []int{1, -2}, false},
		{"a clause that holds already", formula(3, []int{1, 2, 3}), []int{2, -1}, []int{-1, 2}, false},
		{"a clause with two not known", formula(3, []int{1, 2, 3}), []int{-2}, []int{-2}, false},
		{"the first one is left", formula(4, []int{1, 2, 3, 4}), []int{-4, -3, -2}, []int{1, -2, -3, -4}, false},
		{"the last one is left", formula(4, []int{1, 2, 3, 4}), []int{-1, -2, -3}, []int{-1, -2, -3, 4}, false},
		{"one between is left", formula(4, []int{1, 2, 3, 4}), []int{-4, -1, -3}, []int{-1, 2, -3, -4}, false},
		{"none is left", formula(4, []int{1, 2, 3, 4}), []int{-4, -1, -3, -2}, nil, true},
		{"one after the other", formula(4, []int{-3, 4}, []int{-2, 3}, []int{-1, 2}, []int{1}), nil, []int{1, 2, 3, 4}, false},
		{"one after the other, and then false", formula(4, []int{-3, -1}, []int{-2, 3}, []int{-1, 2}, []int{1}), nil, nil, true},
		{"only the literals that follow", formula(6, []int{-1, 5}, []int{6, 4}), []int{1}, []int{1, 5}, false},
		{"no guessing", formula(2, []int{1, 2}, []int{1, -2}), nil, nil, false},
		{"no guessing that there is no model", formula(2, []int{1, 2}, []int{1, -2}, []int{-1, 2}, []int{-1, -2}), nil, nil, false},
	} {
		list, fails := units(t, x.f, x.assume...)
		if !slices.Equal(list, x.want) || fails != x.fails {
			t.Errorf("%s: Units(%d; %d) = %d, %t, want %d, %t", x.name, x.f, x.assume, list, fails, x.want, x.fails)
		}
	}
}

func TestUnitsErrors(t *testing.T) {
	f := example()
	long := repeat(1, api.MaxClause+1)
	for _, x := range []struct {
		name   string
		f      api.Formula
		assume []int
		want   api.Errno
	}{
		{"a variable too great", f, []int{4}, api.ErrRange},
		{"its negative", f, []int{-4}, api.ErrRange},
		{"0", f, []int{0}, api.ErrRange},
		{"0 between valid ones", f, []int{1, 0, 3}, api.ErrRange},
		{"too great after valid ones", f, []int{1, 3, -4}, api.ErrRange},
		{"the greatest number", f, []int{math.MaxInt}, api.ErrRange},
		{"the least number", f, []int{math.MinInt}, api.ErrRange},
		{"the least number, all variables", formula(api.MaxVars), []int{math.MinInt}, api.ErrRange},
		{"just too great, all variables", formula(api.MaxVars), []int{api.MaxVars + 1}, api.ErrRange},
		{"the same in the low bits", formula(1), []int{1<<32 + 1}, api.ErrRange},
		{"no variables", formula(0), []int{1}, api.ErrRange},
		{"no variables, 0", formula(0), []int{0}, api.ErrRange},
		{"less than no variables", formula(-1), nil, api.ErrRange},
		{"the least number of variables", formula(math.MinInt), nil, api.ErrRange},
		{"too many variables", formula(api.MaxVars + 1), nil, api.ErrRange},
		{"too many clauses", formula(1, many(api.MaxClauses+1, 1)...), nil, api.ErrLong},
		{"a clause too long", formula(1, []int{1}, long), nil, api.ErrLong},
		{"a clause with 0", formula(1, []int{1}, []int{0}), nil, api.ErrRange},
		{"a clause with a variable too great", formula(2, example().Clauses...), nil, api.ErrRange},
		{"a clause with the least number", formula(2, []int{math.MinInt}), nil, api.ErrRange},
		{"0 before a clause that is too long", formula(1, []int{0}, long), nil, api.ErrRange},
		{"0 after a clause that is too long", formula(1, long, []int{0}), nil, api.ErrLong},
		{"an assumption and a formula with errors", formula(1, long), []int{0}, api.ErrLong},
		{"an assumption with an error and failing ones", f, []int{1, -1, 4}, api.ErrRange},
		{"an assumption with an error and an empty clause", formula(1, nil), []int{2}, api.ErrRange},
		{"a formula with an error and failing assumptions", formula(1, long), []int{1, -1}, api.ErrLong},
		{"a formula with an error after an empty clause", formula(1, nil, long), nil, api.ErrLong},
		{"an error after more assumptions than a clause has", formula(1), append(long, 2), api.ErrRange},
	} {
		list, fails, e := Units(x.f, x.assume...)
		if e != x.want || len(list) != 0 || fails {
			t.Errorf("%s: %d, %t, %d, want the error %d", x.name, list, fails, e, x.want)
		}
	}
}

func TestUnitsAll(t *testing.T) {
	compare := func(vars int, clauses, assumptions [][]int, most int) {
		lists(clauses, most, func(list [][]int) {
			f := formula(vars, list...)
			for _, assume := range assumptions {
				want, wantFails := expected(f, assume)
				got, fails := units(t, f, assume...)
				if !slices.Equal(got, want) || fails != wantFails {
					t.Errorf("Units(%d; %d) = %d, %t, want %d, %t", f, assume, got, fails, want, wantFails)
				}
			}
		})
	}
	compare(0, pool(0, 0), pool(0, 0), 3)
	compare(1, pool(1, 3), pool(1, 3), 3)
	compare(2, pool(2, 3), pool(2, 2), 2)
	compare(3, pool(3, 2), pool(3, 1), 2)
	compare(4, pool(4, 4), [][]int{nil, {1}, {-2, 3}, {4, -3, 2}, {-1, -2, -3, -4}}, 1)
}

func TestUnitsRandom(t *testing.T) {
	failed, followed := 0, 0
	random(func(_ *rand.Rand, f api.Formula, assume []int) {
		want, wantFails := expected(f, assume)
		got, fails := units(t, f, assume...)
		if !slices.Equal(got, want) || fails != wantFails {
			t.Errorf("Units(%d; %d) = %d, %t, want %d, %t", f, assume, got, fails, want, wantFails)
		}
		switch {
		case fails:
			failed++
		case len(got) > len(assume):
			followed++
		}
	})
	if failed < 500 || followed < 500 {
		t.Error("the formulas say too little:", failed, "fail, of", followed, "something follows")
	}
}

func TestUnitsOfManyAssumptions(t *testing.T) {
	for _, n := range []int{api.MaxClause, api.MaxClause + 1, api.MaxVars} {
		up, down := span(1, n), span(-n, -1)
		if list, fails := units(t, formula(n), up...); !slices.Equal(list, up) || fails {
			t.Errorf("%d assumptions: %d literals, %t", n, len(list), fails)
		}
		slices.Reverse(up)
		slices.Reverse(down)
		if list, fails := units(t, formula(n), slices.Concat(down, down, down)...); !slices.Equal(list, down) || fails {
			t.Errorf("%d negative assumptions, each three times: %d literals, %t", n, len(list), fails)
		}
		if _, fails := units(t, formula(n), append(up, -n)...); !fails {
			t.Errorf("%d assumptions and the negative of the first one do not fail", n)
		}
	}
	if list, fails := units(t, formula(1, []int{1, -1}), repeat(-1, 1<<21)...); !slices.Equal(list, []int{-1}) || fails {
		t.Error("one assumption, very often:", list, fails)
	}
}

// chain returns the clauses by which each variable up to n follows from the one before it, and one more.
func chain(n int, more ...int) [][]int {
	var clauses [][]int
	for v := 2; v <= n; v++ {
		clauses = append(clauses, []int{v, 1 - v})
	}
	return append(clauses, more)
}

func TestUnitsAtTheLimits(t *testing.T) {
	n := min(api.MaxVars, api.MaxClauses)
	all := span(1, n)
	f := formula(n, chain(n, n, -1)...)
	if list, fails := units(t, f, 1); !slices.Equal(list, all) || fails {
		t.Errorf("a chain of all variables: %d literals, %t", len(list), fails)
	}
	if list, fails := units(t, f, n); !slices.Equal(list, []int{n}) || fails {
		t.Errorf("a chain from its end: %d literals, %t", len(list), fails)
	}
	if _, fails := units(t, formula(n, chain(n, -n, -1)...), 1); !fails {
		t.Error("a chain from 1 that ends in -1 does not fail")
	}
	slices.Reverse(f.Clauses)
	f.Clauses[0] = []int{1, 1}
	if list, fails := units(t, f); !slices.Equal(list, all) || fails {
		t.Errorf("a chain whose last clause comes first: %d literals, %t", len(list), fails)
	}
	if _, fails := units(t, f, -n); !fails {
		t.Error("a chain whose end is false does not fail")
	}
}

func TestUnitsOfLongClauses(t *testing.T) {
	n := api.MaxClause
	up := span(1, n)
	var down []int
	for _, x := range up[:n-1] {
		down = append(down, -x)
	}
	backwards := slices.Clone(up)
	slices.Reverse(backwards)
	f := formula(n, slices.Concat(many(200, up...), many(200, backwards...))...)
	if list, fails := units(t, f, down...); !slices.Equal(list, append(slices.Clone(down), n)) || fails {
		t.Errorf("all literals but one are false: %d literals, %t", len(list), fails)
	}
	if list, fails := units(t, f, down[:n-2]...); !slices.Equal(list, down[:n-2]) || fails {
		t.Errorf("all literals but two are false: %d literals, %t", len(list), fails)
	}
	if _, fails := units(t, f, append(down, -n)...); !fails {
		t.Error("all literals are false, and it does not fail")
	}
	same := formula(2, append(repeat(1, n-1), 2))
	if list, fails := units(t, same); len(list) > 0 || fails {
		t.Error("a literal very often, and another one:", list, fails)
	}
	if list, fails := units(t, same, -2); !slices.Equal(list, []int{1, -2}) || fails {
		t.Error("a literal very often, and one that is false:", list, fails)
	}
}

// P4.2

// open returns whether a clause holds with literals, and how many different ones of it are not false.
func open(c, known []int) (bool, int) {
	left := map[int]bool{}
	for _, x := range c {
		if slices.Contains(known, x) {
			return true, 0
		}
		if !slices.Contains(known, -x) {
			left[x] = true
		}
	}
	return false, len(left)
}

func TestNothingIsLeft(t *testing.T) {
	random(func(_ *rand.Rand, f api.Formula, assume []int) {
		list, fails := units(t, f, assume...)
		if fails {
			return
		}
		for _, x := range assume {
			if !slices.Contains(list, x) {
				t.Errorf("Units(%d; %d) = %d does not contain %d", f, assume, list, x)
			}
		}
		for i, x := range list {
			if i > 0 && !lit.Less(list[i-1], x) {
				t.Errorf("Units(%d; %d) = %d is not in order", f, assume, list)
			}
			if slices.Contains(list, -x) {
				t.Errorf("Units(%d; %d) = %d contains %d and its negative", f, assume, list, x)
			}
		}
		for _, c := range f.Clauses {
			if holds, left := open(c, list); !holds && left < 2 {
				t.Errorf("Units(%d; %d) = %d leaves %d of %d", f, assume, list, left, c)
			}
		}
	})
}

// P4.3

// allHold reports whether each literal of a list holds in a model.
func allHold(m []bool, list []int) bool {
	return !slices.ContainsFunc(list, func(x int) bool { return !lit.Holds(m, x) })
}

// holds reports whether a formula holds in a model.
func holds(t *testing.T, f api.Formula, m []bool) bool {
	t.Helper()
	i, e := cnf.First(f, m...)
	if e != api.OK {
		t.Fatal("cnf.First:", e)
	}
	return i == -1
}

func TestWhatFollowsHolds(t *testing.T) {
	lists(pool(3, 2), 2, func(clauses [][]int) {
		f := formula(3, clauses...)
		for _, assume := range pool(3, 1) {
			list, fails := units(t, f, assume...)
			for _, m := range models(3) {
				if !allHold(m, assume) || !holds(t, f, m) {
					continue
				}
				if fails || !allHold(m, list) {
					t.Errorf("Units(%d; %d) = %d, %t, but %t is a model", f, assume, list, fails, m)
				}
			}
		}
	})
}

// P4.4

func TestAgainIsTheSame(t *testing.T) {
	random(func(_ *rand.Rand, f api.Formula, assume []int) {
		list, fails := units(t, f, assume...)
		if fails {
			return
		}
		again, fails := units(t, f, list...)
		if !slices.Equal(again, list) || fails {
			t.Errorf("Units(%d; %d) = %d, and with these %d, %t", f, assume, list, again, fails)
		}
	})
}

func TestMoreIsMore(t *testing.T) {
	random(func(r *rand.Rand, f api.Formula, assume []int) {
		list, fails := units(t, f, assume...)
		x := 1 + r.Intn(f.Vars)
		more := []int{x, -1 - r.Intn(f.Vars), 1 + r.Intn(f.Vars)}
		for range 2 {
			compare := func(what string, g api.Formula, with []int) {
				after, nowFails := units(t, g, with...)
				missing := slices.ContainsFunc(list, func(x int) bool { return !slices.Contains(after, x) })
				if fails && !nowFails || !nowFails && missing {
					t.Errorf("Units(%d; %d) = %d, %t, but with %s %d it is %d, %t", f, assume, list, fails, what, x, after, nowFails)
				}
			}
			compare("the assumption", f, append(slices.Clone(assume), x))
			compare("the clause", formula(f.Vars, append(slices.Clone(f.Clauses), []int{x})...), assume)
			compare("a clause of this and others", formula(f.Vars, append(slices.Clone(f.Clauses), more)...), assume)
			x = -x
		}
	})
}

// P4.5

// shuffled returns a list in another order, with some of its elements once more.
func shuffled[T any](r *rand.Rand, list []T) []T {
	other := slices.Clone(list)
	for _, x := range list {
		if r.Intn(3) == 0 {
			other = append(other, x)
		}
	}
	r.Shuffle(len(other), func(i, j int) { other[i], other[j] = other[j], other[i] })
	return other
}

func TestOrderMakesNoDifference(t *testing.T) {
	random(func(r *rand.Rand, f api.Formula, assume []int) {
		list, fails := units(t, f, assume...)
		for range 3 {
			g := formula(f.Vars, shuffled(r, f.Clauses)...)
			for i, c := range g.Clauses {
				g.Clauses[i] = shuffled(r, c)
			}
			with := shuffled(r, assume)
			if other, otherFails := units(t, g, with...); !slices.Equal(other, list) || otherFails != fails {
				t.Errorf("Units(%d; %d) = %d, %t, but Units(%d; %d) = %d, %t", f, assume, list, fails, g, with, other, otherFails)
			}
		}
	})
}

// P4.6

func TestAllKnownIsAModel(t *testing.T) {
	seen := 0
	random(func(_ *rand.Rand, f api.Formula, assume []int) {
		list, fails := units(t, f, assume...)
		if fails || len(list) < f.Vars {
			return
		}
		seen++
		m := make([]bool, f.Vars)
		for i, x := range list {
			m[i] = x > 0
		}
		if !holds(t, f, m) || !allHold(m, assume) {
			t.Errorf("Units(%d; %d) = %d is no model", f, assume, list)
		}
	})
	if seen < 100 {
		t.Error("all variables are known of only", seen, "formulas")
	}
}

// R3 and R6

func TestArgumentsStay(t *testing.T) {
	room := make([]int, 0, 8)
	clauses := append(make([][]int, 0, 8), append(room, 3, -1, 3), nil, []int{-2, 1}, []int{2})
	clauses[1] = []int{-3, -3, 1}
	f := api.Formula{Vars: 3, Clauses: clauses}
	assume := append(make([]int, 0, 8), 2, 1, 2)
	if list, fails := units(t, f, assume...); !slices.Equal(list, []int{1, 2, 3}) || fails {
		t.Error("Units:", list, fails)
	}
	if want := formula(3, []int{3, -1, 3}, []int{-3, -3, 1}, []int{-2, 1}, []int{2}); !cnf.Equal(f, want) {
		t.Error("the formula is now", f)
	}
	if !slices.Equal(room[:8], []int{3, -1, 3, 0, 0, 0, 0, 0}) {
		t.Error("a clause is now", room[:8])
	}
	if !slices.Equal(assume[:8], []int{2, 1, 2, 0, 0, 0, 0, 0}) {
		t.Error("the assumptions are now", assume[:8])
	}
	for _, c := range clauses[4:8] {
		if c != nil {
			t.Error("behind the clauses there is now", c)
		}
	}
}

func TestResultsAreIndependent(t *testing.T) {
	f, assume := formula(3, []int{1}, []int{-1, 2}), []int{1, 2, 3}
	for range 3 {
		list, fails := units(t, f, assume...)
		if !slices.Equal(list, []int{1, 2, 3}) || fails {
			t.Error("Units:", list, fails)
		}
		for i := range list {
			list[i] = 77
		}
		if _, fails := units(t, f, -2); !fails {
			t.Error("Units with a clause that is false does not fail")
		}
		if _, _, e := Units(f, 4); e != api.ErrRange {
			t.Error("Units of an assumption that is out of range:", e)
		}
	}
	if !slices.Equal(assume, []int{1, 2, 3}) || !cnf.Equal(f, formula(3, []int{1}, []int{-1, 2})) {
		t.Error("the arguments change with a result:", f, assume)
	}
}
