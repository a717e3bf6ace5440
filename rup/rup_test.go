package rup

import (
	"math"
	"math/rand"
	"slices"
	"testing"

	"weephole/api"
	"weephole/cnf"
	"weephole/lit"
	"weephole/prop"
)

func formula(vars int, clauses ...[]int) api.Formula {
	return api.Formula{Vars: vars, Clauses: clauses}
}

// full is the formula F of the chapter, which has no model.
func full() api.Formula {
	return formula(2, []int{1, 2}, []int{1, -2}, []int{-1, 2}, []int{-1, -2})
}

// part is the formula G of the chapter, which has one model.
func part() api.Formula {
	return formula(2, full().Clauses[:3]...)
}

// many returns n clauses that have the same literals; they share memory.
func many(n int, c ...int) [][]int {
	return slices.Repeat([][]int{c}, n)
}

func repeat(x, n int) []int {
	return slices.Repeat([]int{x}, n)
}

// with returns a formula with more clauses.
func with(f api.Formula, more ...[]int) api.Formula {
	return formula(f.Vars, slices.Concat(f.Clauses, more)...)
}

// pool returns every list of up to most literals of the variables 1 to vars.
func pool(vars, most int) [][]int {
	all := [][]int{{}}
	for from, length := 0, 1; length <= most; length++ {
		last := all[from:]
		from = len(all)
		for _, c := range last {
			for x := -vars; x <= vars; x++ {
				if x != 0 {
					all = append(all, append(slices.Clone(c), x))
				}
			}
		}
	}
	return all
}

// lists calls f with every list of up to most of the clauses of all.
func lists(all [][]int, most int, f func(clauses [][]int)) {
	var grow func(clauses [][]int)
	grow = func(clauses [][]int) {
		f(clauses)
		if len(clauses) == most {
			return
		}
		for _, c := range all {
			grow(append(slices.Clone(clauses), c))
		}
	}
	grow(nil)
}

// models returns every model of a formula.
func models(t *testing.T, f api.Formula) [][]bool {
	t.Helper()
	var all [][]bool
	for bits := range 1 << f.Vars {
		m := make([]bool, f.Vars)
		for i := range m {
			m[i] = bits>>i&1 == 1
		}
		i, e := cnf.First(f, m...)
		if e != api.OK {
			t.Fatal("cnf.First:", e)
		}
		if i == -1 {
			all = append(all, m)
		}
	}
	return all
}

// follows reports whether a clause is implied, from the definition: by looking at all clauses until nothing more follows.
func follows(clauses [][]int, c []int) bool {
	known := map[int]bool{}
	for _, x := range c {
		known[-x] = true
	}
	for _, x := range c {
		if known[x] {
			return true
		}
	}
	for more := true; more; {
		more = false
		for _, d := range clauses {
			left := map[int]bool{}
			for _, x := range d {
				if !known[-x] {
					left[x] = true
				}
			}
			if len(left) == 0 {
				return true
			}
			for x := range left {
				if len(left) == 1 && !known[x] {
					known[x], more = true, true
				}
			}
		}
	}
	return false
}

// expected is what Check returns for a valid formula and a valid proof, from the definition.
func expected(f api.Formula, proof [][]int) int {
	clauses := slices.Clone(f.Clauses)
	for i, c := range proof {
		if !follows(clauses, c) {
			return i
		}
		clauses = append(clauses, c)
	}
	if len(proof) > 0 && len(proof[len(proof)-1]) == 0 {
		return -1
	}
	return len(proof)
}

// implied returns what Implied returns, and fails the test if this is an error.
func implied(t *testing.T, f api.Formula, c ...int) bool {
	t.Helper()
	is, e := Implied(f, c...)
	if e != api.OK {
		t.Fatalf("Implied(%d; %d): error %d", f, c, e)
	}
	return is
}

// checked returns what Check returns, and fails the test if this is an error.
func checked(t *testing.T, f api.Formula, proof ...[]int) int {
	t.Helper()
	n, e := Check(f, proof...)
	if e != api.OK {
		t.Fatalf("Check(%d; %d): error %d", f, proof, e)
	}
	return n
}

// refute returns a proof for a formula without models, and no clauses otherwise: both values of the first variable that is not known are tried, and the clauses that exclude them, then what was decided before, and at last nothing.
func refute(f api.Formula, decided ...int) [][]int {
	known, fails, _ := prop.Units(f, decided...)
	var clause []int
	for _, x := range decided {
		clause = append(clause, -x)
	}
	if fails {
		return [][]int{clause}
	}
	for v := 1; v <= f.Vars; v++ {
		if slices.Contains(known, v) || slices.Contains(known, -v) {
			continue
		}
		proof := refute(f, append(slices.Clone(decided), v)...)
		other := refute(f, append(slices.Clone(decided), -v)...)
		if len(proof) == 0 || len(other) == 0 {
			return nil
		}
		return append(append(proof, other...), clause)
	}
	return nil
}

// clauseOf returns a clause of up to most literals of n variables.
func clauseOf(r *rand.Rand, n, most int) []int {
	c := make([]int, r.Intn(most+1))
	for i := range c {
		c[i] = (1 + r.Intn(n)) * (1 - 2*r.Intn(2))
	}
	return c
}

// random calls f with formulas that are larger than those of which there are all, some of which have no model, always the same ones.
func random(f func(r *rand.Rand, g api.Formula)) {
	r := rand.New(rand.NewSource(5))
	for range 1500 {
		vars := 2 + r.Intn(6)
		clauses := make([][]int, r.Intn(5*vars))
		for i := range clauses {
			// Seldom short, so that much follows only from several clauses.
			for len(clauses[i]) == 0 || len(clauses[i]) == 1 && r.Intn(8) > 0 {
				clauses[i] = clauseOf(r, vars, 4)
			}
		}
		f(r, formula(vars, clauses...))
	}
}

// attempt returns clauses of which some are implied, or a proof if there is one and r says so.
func attempt(r *rand.Rand, f api.Formula) [][]int {
	if proof := refute(f); len(proof) > 0 && r.Intn(3) == 0 {
		return proof
	}
	var proof [][]int
	for range r.Intn(6) {
		c := clauseOf(r, f.Vars, 4)
		if r.Intn(3) > 0 && len(f.Clauses) > 0 {
			c = append(c, f.Clauses[r.Intn(len(f.Clauses))]...)
		}
		proof = append(proof, c)
	}
	return proof
}

// P5.1

func TestImplied(t *testing.T) {
	chain := formula(4, []int{-3, 4}, []int{-2, 3}, []int{-1, 2})
	for _, x := range []struct {
		name string
		f    api.Formula
		c    []int
		want bool
	}{
		{"F, a literal", full(), []int{1}, true},
		{"F, its negative", full(), []int{-1}, true},
		{"F, the empty clause, which needs a guess", full(), nil, false},
		{"G, the negative of a literal of its model", part(), []int{-1}, false},
		{"G, a literal and its negative", part(), []int{1, -1}, true},
		{"G, a literal of its model", part(), []int{2}, true},
		{"G, one literal of its model is enough", part(), []int{-1, 2}, true},
		{"G, no literal of its model", part(), []int{-1, -2}, false},
		{"G, a literal several times", part(), []int{2, 2, 2}, true},
		{"G, a literal that does not follow several times", part(), []int{-2, -2}, false},
		{"no clauses", formula(2), []int{1}, false},
		{"no clauses, the empty clause", formula(2), nil, false},
		{"no clauses, a literal and its negative", formula(2), []int{2, 1, -2}, true},
		{"no clauses, the negative comes first", formula(2), []int{-2, 1, 2}, true},
		{"no variables, no clauses", formula(0), nil, false},
		{"no variables, an empty clause", formula(0, nil), nil, true},
		{"an empty clause, the empty clause", formula(2, nil), nil, true},
		{"an empty clause, any clause", formula(2, nil), []int{-1, 2}, true},
		{"an empty clause after others", formula(2, []int{1, 2}, []int{}), []int{-1}, true},
		{"a clause of the formula", chain, []int{-2, 3}, true},
		{"in another order", chain, []int{3, -2}, true},
		{"one with more literals", chain, []int{4, 3, -2}, true},
		{"one with less literals", chain, []int{3}, false},
		{"the ends of a chain", chain, []int{-1, 4}, true},
		{"the ends of a part of a chain", chain, []int{-2, 4}, true},
		{"the ends the other way round", chain, []int{1, -4}, false},
		{"what can't be seen from a literal", chain, []int{4}, false},
		{"a contradiction of units", formula(2, []int{1}, []int{-1}), nil, true},
		{"literals several times in a contradiction", formula(2, []int{1, 1}, []int{-1, -1}), []int{2}, true},
		{"a unit", formula(2, []int{1}), []int{1}, true},
		{"a unit, and a variable without clauses", formula(2, []int{1}), []int{2}, false},
		{"a clause that always holds says nothing", formula(2, []int{1, -1}), []int{1}, false},
		{"what holds in all models, but needs a guess", formula(3, []int{1, 2, 3}, []int{1, 2, -3}, []int{1, -2, 3}, []int{1, -2, -3}), []int{1}, false},
		{"the same with one literal more", formula(3, []int{1, 2, 3}, []int{1, 2, -3}, []int{1, -2, 3}, []int{1, -2, -3}), []int{1, 2}, true},
		{"all variables there may be", formula(api.MaxVars, []int{api.MaxVars}), []int{api.MaxVars}, true},
		{"the greatest variable, negative", formula(api.MaxVars, []int{api.MaxVars}), []int{-api.MaxVars}, false},
	} {
		if is := implied(t, x.f, x.c...); is != x.want {
			t.Errorf("%s: Implied(%d; %d) = %t", x.name, x.f, x.c, is)
		}
	}
}

func TestImpliedErrors(t *testing.T) {
	long := repeat(1, api.MaxClause+1)
	for _, x := range []struct {
		name string
		f    api.Formula
		c    []int
		want api.Errno
	}{
		{"a clause with 0", full(), []int{0}, api.ErrRange},
		{"a variable too great", full(), []int{3}, api.ErrRange},
		{"its negative", full(), []int{-3}, api.ErrRange},
		{"too great after valid ones", full(), []int{1, 2, -3}, api.ErrRange},
		{"0 before valid ones", full(), []int{0, 1}, api.ErrRange},
		{"0 in a clause that holds always", full(), []int{1, -1, 0}, api.ErrRange},
		{"the greatest number", full(), []int{math.MaxInt}, api.ErrRange},
		{"the least number", full(), []int{math.MinInt}, api.ErrRange},
		{"the least number, all variables", formula(api.MaxVars), []int{math.MinInt}, api.ErrRange},
		{"the same in the low bits", full(), []int{1<<32 + 1}, api.ErrRange},
		{"no variables", formula(0), []int{1}, api.ErrRange},
		{"no variables, an empty clause", formula(0, nil), []int{-1}, api.ErrRange},
		{"too many literals", full(), long, api.ErrLong},
		{"too many literals, one of which is 0", full(), append([]int{0}, long...), api.ErrLong},
		{"less than no variables", formula(-1), nil, api.ErrRange},
		{"the least number of variables", formula(math.MinInt), nil, api.ErrRange},
		{"too many variables", formula(api.MaxVars + 1), nil, api.ErrRange},
		{"too many clauses", formula(1, many(api.MaxClauses+1, 1)...), []int{1}, api.ErrLong},
		{"a clause of the formula with 0", formula(1, []int{1}, []int{0}), []int{1}, api.ErrRange},
		{"a clause of the formula out of range", formula(1, full().Clauses...), []int{1}, api.ErrRange},
		{"a clause of the formula that is too long", formula(1, []int{1}, long), []int{1}, api.ErrLong},
		{"the formula first: too long, and out of range", formula(1, long), []int{2}, api.ErrLong},
		{"the formula first: out of range, and too long", formula(1, []int{2}), long, api.ErrRange},
		{"the formula first: its variables, and too long", formula(-1), long, api.ErrRange},
		{"too many clauses, and out of range", formula(1, many(api.MaxClauses+1, 1)...), []int{2}, api.ErrLong},
		{"after an empty clause", formula(1, nil, long), nil, api.ErrLong},
	} {
		if is, e := Implied(x.f, x.c...); e != x.want || is {
			t.Errorf("%s: %t, %d, want the error %d", x.name, is, e, x.want)
		}
	}
}

func TestImpliedOfLongClauses(t *testing.T) {
	n := api.MaxClause
	var up []int
	for v := 1; v <= n; v++ {
		up = append(up, v)
	}
	if !implied(t, formula(n, up), up...) {
		t.Error("a clause of all literals that there may be is not implied by itself")
	}
	if implied(t, formula(n, up), up[1:]...) {
		t.Error("a clause is implied by one with one literal more")
	}
	if !implied(t, formula(n, up, []int{2, -1}), up[1:]...) {
		t.Error("what is left of a clause is not implied")
	}
	if !implied(t, formula(1, []int{1}), repeat(1, n)...) {
		t.Error("a literal as often as may be is not implied by itself")
	}
	if !implied(t, formula(n), append(up[:n-1:n-1], -1)...) {
		t.Error("a long clause with a literal and its negative is not implied")
	}
}

func TestImpliedAll(t *testing.T) {
	compare := func(vars int, clauses, candidates [][]int, most int) {
		lists(clauses, most, func(list [][]int) {
			f := formula(vars, list...)
			for _, c := range candidates {
				if is, want := implied(t, f, c...), follows(f.Clauses, c); is != want {
					t.Errorf("Implied(%d; %d) = %t", f, c, is)
				}
			}
		})
	}
	compare(0, pool(0, 0), pool(0, 0), 3)
	compare(1, pool(1, 3), pool(1, 3), 2)
	compare(2, pool(2, 2), pool(2, 2), 3)
	compare(3, pool(3, 2), pool(3, 2), 1)
}

func TestImpliedRandom(t *testing.T) {
	yes, no := 0, 0
	random(func(r *rand.Rand, f api.Formula) {
		for range 8 {
			c := clauseOf(r, f.Vars, 4)
			is := implied(t, f, c...)
			if want := follows(f.Clauses, c); is != want {
				t.Errorf("Implied(%d; %d) = %t", f, c, is)
			}
			if is {
				yes++
			} else {
				no++
			}
		}
	})
	if yes < 2000 || no < 2000 {
		t.Error("the formulas say too little:", yes, "clauses are implied,", no, "are not")
	}
}

// P5.2

func TestCheck(t *testing.T) {
	// The literal 3 is implied only as soon as 1 is known.
	late := formula(4, []int{1, 2}, []int{1, -2}, []int{-1, 3, 4}, []int{-1, 3, -4})
	for _, x := range []struct {
		name  string
		f     api.Formula
		proof [][]int
		want  int
	}{
		{"F, a proof", full(), [][]int{{1}, {}}, -1},
		{"F, another proof", full(), [][]int{{-2}, {}}, -1},
		{"F, only the empty clause", full(), [][]int{{}}, 0},
		{"F, no empty clause", full(), [][]int{{1}}, 1},
		{"F, no clauses", full(), nil, 0},
		{"F, an empty list", full(), [][]int{}, 0},
		{"F, a nil clause is an empty one", full(), [][]int{{1}, nil}, -1},
		{"F, the empty clause twice", full(), [][]int{{1}, {}, {}}, -1},
		{"F, not at the end", full(), [][]int{{1}, {}, {2}}, 3},
		{"F, not at the end, and once more", full(), [][]int{{1}, {}, {-2, -1}, {}}, -1},
		{"F, what does not help first", full(), [][]int{{1, 2}, {}}, 1},
		{"F, what always holds does not help", full(), [][]int{{1, -1}, {}}, 1},
		{"F, the first one that is not implied", full(), [][]int{{1, 2}, {}, {1}, {}}, 1},
		{"G, no proof", part(), [][]int{{1}, {}}, 1},
		{"G, all implied", part(), [][]int{{1}, {2}, {1, 2}}, 3},
		{"G, not the first one", part(), [][]int{{-1}}, 0},
		{"G, not one after others", part(), [][]int{{1}, {2}, {-2}, {1}}, 2},
		{"only with the clause before it", late, [][]int{{1}, {3}}, 2},
		{"not before it", late, [][]int{{3}, {1}}, 0},
		{"not with the clause after the next one", late, [][]int{{2, 1}, {3}, {1}, {3}}, 1},
		{"no clauses at all", formula(0), nil, 0},
		{"no clauses, and the empty one", formula(0), [][]int{{}}, 0},
		{"no variables and an empty clause", formula(0, nil), [][]int{{}}, -1},
		{"no variables and an empty clause, twice", formula(0, nil), [][]int{{}, {}}, -1},
		{"an empty clause, and no proof", formula(1, nil), nil, 0},
		{"an empty clause, and clauses that are not", formula(1, nil), [][]int{{1}, {-1}}, 2},
		{"a contradiction of units", formula(1, []int{1}, []int{-1}), [][]int{{}}, -1},
		{"the same clause again", part(), [][]int{{2, 1}, {1, 2}, {1, 2, 1}, {1}, {1}}, 5},
		{"one that was not taken is not there", formula(2, []int{1, 2}), [][]int{{1}, {1}}, 0},
		{"signs and digits matter", formula(12, []int{1, 2}), [][]int{{1, 2}, {12}}, 1},
		{"signs matter", formula(2, []int{1, -2}), [][]int{{1, -2}, {-1, 2}}, 1},
		{"less than what was taken", formula(2, []int{1, 2}), [][]int{{1, 2}, {2}}, 1},
	} {
		if n := checked(t, x.f, x.proof...); n != x.want {
			t.Errorf("%s: Check(%d; %d) = %d, want %d", x.name, x.f, x.proof, n, x.want)
		}
	}
}

func TestCheckErrors(t *testing.T) {
	long := repeat(1, api.MaxClause+1)
	for _, x := range []struct {
		name  string
		f     api.Formula
		proof [][]int
		want  api.Errno
	}{
		{"a variable too great", full(), [][]int{{3}}, api.ErrRange},
		{"0", full(), [][]int{{0}}, api.ErrRange},
		{"the least number", full(), [][]int{{math.MinInt}}, api.ErrRange},
		{"a clause too long", full(), [][]int{long}, api.ErrLong},
		{"in the last clause", full(), [][]int{{1}, {}, {-3}}, api.ErrRange},
		{"after one that is not implied", part(), [][]int{{-1}, {3}}, api.ErrRange},
		{"after the empty clause", full(), [][]int{{1}, {}, long}, api.ErrLong},
		{"after valid literals", full(), [][]int{{1, -1, 3}}, api.ErrRange},
		{"the first one: out of range", full(), [][]int{{1}, {3}, long}, api.ErrRange},
		{"the first one: too long", full(), [][]int{{1}, long, {3}}, api.ErrLong},
		{"too long before out of range", full(), [][]int{append([]int{0}, long...)}, api.ErrLong},
		{"a clause again, the second time with 0", full(), [][]int{{1}, {1, 0}}, api.ErrRange},
		{"less than no variables", formula(-1), nil, api.ErrRange},
		{"too many variables", formula(api.MaxVars+1, []int{1}), [][]int{{1}, {}}, api.ErrRange},
		{"too many clauses", formula(1, many(api.MaxClauses+1, 1)...), nil, api.ErrLong},
		{"a clause of the formula with 0", formula(1, []int{0}), nil, api.ErrRange},
		{"a clause of the formula that is too long", formula(1, long), [][]int{{1}}, api.ErrLong},
		{"the formula first: too long, and out of range", formula(1, long), [][]int{{2}}, api.ErrLong},
		{"the formula first: out of range, and too long", formula(1, []int{2}), [][]int{long}, api.ErrRange},
		{"the formula first: its variables, and too long", formula(-1), [][]int{long}, api.ErrRange},
		{"behind more clauses than a formula may have, none of which is implied", part(), append(many(api.MaxClauses+1, -1), []int{3}), api.ErrRange},
		{"too long behind as many as it may have", part(), append(many(api.MaxClauses, -1), long, []int{3}), api.ErrLong},
	} {
		if n, e := Check(x.f, x.proof...); e != x.want || n != 0 {
			t.Errorf("%s: %d, %d, want the error %d", x.name, n, e, x.want)
		}
	}
}

func TestCheckAll(t *testing.T) {
	compare := func(vars int, clauses [][]int, most int, steps [][]int, length int) {
		var proofs [][][]int
		lists(steps, length, func(proof [][]int) { proofs = append(proofs, proof) })
		lists(clauses, most, func(list [][]int) {
			f := formula(vars, list...)
			for _, proof := range proofs {
				if n, want := checked(t, f, proof...), expected(f, proof); n != want {
					t.Errorf("Check(%d; %d) = %d, want %d", f, proof, n, want)
				}
			}
		})
	}
	compare(0, pool(0, 0), 2, pool(0, 0), 3)
	compare(1, pool(1, 2), 2, pool(1, 2), 3)
	compare(2, pool(2, 2), 1, pool(2, 2), 2)
	compare(2, [][]int{{1, 2}, {1, -2}, {-1, 2}, {-1, -2}}, 4, [][]int{{}, {1}, {-1}, {2}, {1, 2}}, 3)
}

func TestCheckRandom(t *testing.T) {
	proofs, stopped, ended := 0, 0, 0
	random(func(r *rand.Rand, f api.Formula) {
		proof := attempt(r, f)
		n, want := checked(t, f, proof...), expected(f, proof)
		switch {
		case n != want:
			t.Errorf("Check(%d; %d) = %d, want %d", f, proof, n, want)
		case n == -1:
			proofs++
		case n < len(proof):
			stopped++
		default:
			ended++
		}
	})
	if proofs < 100 || stopped < 100 || ended < 100 {
		t.Error("the proofs say too little:", proofs, "are proofs,", stopped, "have a clause that is not implied,", ended, "no empty one")
	}
}

// holes returns the formula that says that n+1 pigeons are in n holes, each one in a hole of its own.
func holes(n int) api.Formula {
	f := formula((n + 1) * n)
	for p := range n + 1 {
		var c []int
		for h := range n {
			c = append(c, p*n+h+1)
			for q := range p {
				f.Clauses = append(f.Clauses, []int{-(p*n + h + 1), -(q*n + h + 1)})
			}
		}
		f.Clauses = append(f.Clauses, c)
	}
	return f
}

func TestCheckOfLongerProofs(t *testing.T) {
	for n := range 6 {
		f := holes(n)
		proof := refute(f)
		last := len(proof) - 1
		if i := checked(t, f, proof...); i != -1 {
			t.Errorf("%d holes: Check of a proof = %d", n, i)
		}
		if i := checked(t, f, proof[:last]...); i != last {
			t.Errorf("%d holes: Check of a proof without its end = %d, want %d", n, i, last)
		}
		g := formula(f.Vars, f.Clauses[:len(f.Clauses)-1]...)
		if i := checked(t, g, proof...); i < 0 || i > last {
			t.Errorf("%d holes, but one clause is missing: Check of a proof = %d", n, i)
		}
		if i, want := checked(t, g, proof...), expected(g, proof); i != want {
			t.Errorf("%d holes, but one clause is missing: Check of a proof = %d, want %d", n, i, want)
		}
	}
}

func TestCheckOfProofsOfAnyLength(t *testing.T) {
	n := api.MaxClauses
	last := [][]int{{-2}, {}, {1}, {}}
	var units [][]int
	for v := 1; v <= api.MaxVars; v++ {
		units = append(units, []int{v})
	}
	for _, x := range []struct {
		name  string
		f     api.Formula
		proof [][]int
		want  int
	}{
		{"a clause of the formula", full(), many(n+1, 2, 1), n + 1},
		{"a clause of the formula, and then none", part(), append(many(n+1, 2, 1), []int{-1}), n + 1},
		{"a clause that follows", full(), many(2*n+1, 1), 2*n + 1},
		{"a clause that follows, and then a proof", full(), append(many(2*n+1, 1), nil), -1},
		{"a clause that always holds", formula(1), many(n+1, 1, -1), n + 1},
		{"a clause that always holds, and then none", formula(1), append(many(n+1, 1, -1), []int{1}), n + 1},
		{"a clause that always holds, and then a proof", full(), slices.Concat(many(n+1, 1, -1), last), -1},
		{"the empty clause", formula(0, nil), many(n + 1), -1},
		{"the empty clause, and then others", formula(1, nil), slices.Concat(many(n+1), many(n+1, 1)), 2*n + 2},
		{"the empty clause, and then different ones", formula(api.MaxVars, nil), slices.Concat(many(1), units), api.MaxVars + 1},
	} {
		if i := checked(t, x.f, x.proof...); i != x.want {
			t.Errorf("%s: Check of %d clauses = %d, want %d", x.name, len(x.proof), i, x.want)
		}
	}
}

// TestCheckOfFullFormulas has formulas to which a clause of a proof can't be added without having too many.
func TestCheckOfFullFormulas(t *testing.T) {
	// The proof needs clauses of the formula after those of the proof, and those after these, and again.
	f := formula(10,
		[]int{1, 2}, []int{1, -2},
		[]int{-1, 4}, []int{-4, 3, 5}, []int{-4, 3, -5},
		[]int{-4, -6, 7}, []int{-4, -6, -7},
		[]int{-3, 8, 9}, []int{-3, 8, -9})
	proof := [][]int{{1}, {3, 3}, {-6, -6, -6}, {8, 6}, {8}}
	ends := []struct {
		name  string
		more  [][]int
		proof [][]int
		want  int
	}{
		{"nothing more", nil, nil, len(proof)},
		{"a clause that is not implied", nil, [][]int{{10}, {}}, len(proof)},
		{"a clause that is not, and has its literals several times", nil, [][]int{{10, 10, 10, 10, 10, 10}}, len(proof)},
		{"a proof", [][]int{{-8, 10}, {-8, -10}}, [][]int{{}}, -1},
		{"a proof that goes on", [][]int{{-8, 10}, {-8, -10}}, [][]int{{10}, {}, {-10}}, len(proof) + 3},
	}
	for _, room := range []int{0, 1, 4} {
		for _, x := range ends {
			g := with(f, x.more...)
			padding := many(api.MaxClauses-room-len(g.Clauses), 1, 2)
			h := formula(g.Vars, slices.Concat(padding, g.Clauses)...)
			all := slices.Concat(proof, x.proof)
			if n := checked(t, h, all...); n != x.want || n != expected(g, all) {
				t.Errorf("room for %d clauses, %s: Check(.., %d; %d) = %d, want %d", room, x.name, g, all, n, x.want)
			}
		}
	}
}

// P5.3

func TestImpliedHoldsInModels(t *testing.T) {
	random(func(r *rand.Rand, f api.Formula) {
		all := models(t, f)
		for range 5 {
			c := clauseOf(r, f.Vars, 3)
			if !implied(t, f, c...) {
				continue
			}
			for _, m := range all {
				if !lit.Holds(m, c...) {
					t.Errorf("%d is implied by %d, but does not hold in %t", c, f, m)
				}
			}
		}
	})
}

func TestProofsAreSound(t *testing.T) {
	some, none := 0, 0
	random(func(r *rand.Rand, f api.Formula) {
		all := models(t, f)
		if proof := refute(f); len(proof) > 0 {
			none++
			if n := checked(t, f, proof...); n != -1 || len(all) > 0 {
				t.Errorf("Check(%d; %d) = %d, with the models %t", f, proof, n, all)
			}
			return
		}
		some++
		for range 4 {
			proof := append(attempt(r, f), nil)
			if n := checked(t, f, proof...); n == -1 {
				t.Errorf("Check(%d; %d) = -1, but %t are models", f, proof, all)
			}
		}
	})
	if some < 300 || none < 300 {
		t.Error("the formulas say too little:", some, "have models,", none, "have none")
	}
}

// P5.4

func TestClausesOfTheFormulaAreImplied(t *testing.T) {
	random(func(r *rand.Rand, f api.Formula) {
		for _, c := range f.Clauses {
			more := append(slices.Clone(c), clauseOf(r, f.Vars, 3)...)
			r.Shuffle(len(more), func(i, j int) { more[i], more[j] = more[j], more[i] })
			for _, d := range [][]int{c, more} {
				if !implied(t, f, d...) {
					t.Errorf("Implied(%d; %d) is false", f, d)
				}
			}
		}
	})
}

func TestMoreClausesImplyMore(t *testing.T) {
	random(func(r *rand.Rand, f api.Formula) {
		g := with(f, clauseOf(r, f.Vars, 3), clauseOf(r, f.Vars, 4))
		r.Shuffle(len(g.Clauses), func(i, j int) { g.Clauses[i], g.Clauses[j] = g.Clauses[j], g.Clauses[i] })
		for range 5 {
			c := clauseOf(r, f.Vars, 3)
			if implied(t, f, c...) && !implied(t, g, c...) {
				t.Errorf("%d is implied by %d, but not by %d", c, f, g)
			}
		}
	})
}

// P5.5

func TestMoreIsStillAProof(t *testing.T) {
	seen := 0
	random(func(r *rand.Rand, f api.Formula) {
		proof := refute(f)
		if len(proof) == 0 {
			return
		}
		seen++
		var before, twice [][]int
		for range 4 {
			if c := clauseOf(r, f.Vars, 4); implied(t, f, c...) {
				before = append(before, c)
			}
		}
		for _, c := range proof {
			twice = append(twice, c, c)
		}
		bigger := with(f, clauseOf(r, f.Vars, 3), f.Clauses[0])
		for _, x := range []struct {
			f     api.Formula
			proof [][]int
		}{
			{f, slices.Concat(before, proof)},
			{f, slices.Concat(f.Clauses, proof)},
			{f, slices.Concat(proof, proof)},
			{f, twice},
			{bigger, proof},
			{with(f, before...), proof},
		} {
			if n := checked(t, x.f, x.proof...); n != -1 {
				t.Errorf("Check(%d; %d) = -1, but Check(%d; %d) = %d", f, proof, x.f, x.proof, n)
			}
		}
	})
	if seen < 300 {
		t.Error("only", seen, "proofs")
	}
}

// P5.6

func TestWhatComesLaterMakesNoDifference(t *testing.T) {
	seen := 0
	random(func(r *rand.Rand, f api.Formula) {
		proof := attempt(r, f)
		n := checked(t, f, proof...)
		if n < 0 || n == len(proof) {
			return
		}
		seen++
		if i := checked(t, f, proof[:n+1]...); i != n {
			t.Errorf("Check(%d; %d) = %d, but of the clauses up to that one %d", f, proof, n, i)
		}
		if other := append(proof[:n+1:n+1], clauseOf(r, f.Vars, 3), nil); checked(t, f, other...) != n {
			t.Errorf("Check(%d; %d) = %d, but of %d it is not", f, proof, n, other)
		}
		// None of these is empty, because then the next one would be implied.
		if i := checked(t, f, proof[:n]...); i != n {
			t.Errorf("Check(%d; %d) = %d, but of the clauses before that one %d", f, proof, n, i)
		}
	})
	if seen < 300 {
		t.Error("only", seen, "lists of clauses of which one is not implied")
	}
}

func TestWhatDoesNotHoldIsNotImplied(t *testing.T) {
	random(func(r *rand.Rand, f api.Formula) {
		for _, m := range models(t, f) {
			// The literals that are false in the model, and some of them.
			var c []int
			for i, x := range m {
				if x {
					c = append(c, -i-1)
				} else {
					c = append(c, i+1)
				}
			}
			for _, d := range [][]int{c, c[:r.Intn(len(c))], c[r.Intn(len(c)):]} {
				if implied(t, f, d...) {
					t.Errorf("%d is implied by %d, but does not hold in %t", d, f, m)
				}
			}
		}
	})
}

// P5.7

func TestEmptyClause(t *testing.T) {
	seen := 0
	compare := func(f api.Formula) {
		_, fails, e := prop.Units(f)
		if is := implied(t, f); e != api.OK || is != fails {
			t.Errorf("Implied(%d) = %t, but unit propagation: %t, %d", f, is, fails, e)
		}
		if fails {
			seen++
		}
	}
	random(func(r *rand.Rand, f api.Formula) {
		compare(f)
		compare(with(f, clauseOf(r, f.Vars, 1), clauseOf(r, f.Vars, 1)))
	})
	lists(pool(2, 2), 2, func(clauses [][]int) { compare(formula(2, clauses...)) })
	if seen < 300 {
		t.Error("the empty clause is implied by only", seen, "formulas")
	}
}

func TestEverythingIsImpliedAfterTheEmptyClause(t *testing.T) {
	seen := 0
	random(func(r *rand.Rand, f api.Formula) {
		proof := refute(f)
		if len(proof) == 0 {
			return
		}
		seen++
		for _, c := range pool(f.Vars, 1)[1:] {
			proof = append(proof, c)
		}
		proof = append(proof, append(clauseOf(r, f.Vars, 3), 1))
		if n := checked(t, f, proof...); n != len(proof) {
			t.Errorf("Check(%d; %d) = %d", f, proof, n)
		}
		if n := checked(t, f, append(proof, nil)...); n != -1 {
			t.Errorf("Check(%d; %d, and the empty clause) = %d", f, proof, n)
		}
	})
	if seen < 300 {
		t.Error("only", seen, "proofs")
	}
}

// R3 and R6

func TestArgumentsStay(t *testing.T) {
	room := append(make([]int, 0, 4), 2, -1, 2)
	clauses := append(make([][]int, 0, 8), []int{1, 2}, []int{1, -2}, room, []int{-1, -2, -1})
	f := formula(2, clauses...)
	proof := append(make([][]int, 0, 8), append(make([]int, 0, 4), 2, 1, 2), []int{1, 1}, nil, []int{-1})
	c := append(make([]int, 0, 4), 1, 1)
	if n := checked(t, f, proof...); n != 4 {
		t.Error("Check:", n)
	}
	if !implied(t, f, c...) {
		t.Error("Implied is false")
	}
	if want := formula(2, []int{1, 2}, []int{1, -2}, []int{2, -1, 2}, []int{-1, -2, -1}); !cnf.Equal(f, want) {
		t.Error("the formula is now", f)
	}
	if want := [][]int{{2, 1, 2}, {1, 1}, nil, {-1}}; !slices.EqualFunc(proof, want, slices.Equal[[]int]) {
		t.Error("the proof is now", proof)
	}
	if !slices.Equal(c[:4], []int{1, 1, 0, 0}) || !slices.Equal(room[:4], []int{2, -1, 2, 0}) || !slices.Equal(proof[0][:4], []int{2, 1, 2, 0}) {
		t.Error("clauses are now", c[:4], room[:4], proof[0][:4])
	}
	for _, list := range [][][]int{clauses[4:8], proof[4:8]} {
		for _, d := range list {
			if d != nil {
				t.Error("behind the clauses there is now", d)
			}
		}
	}
}

func TestCallsAreIndependent(t *testing.T) {
	for range 3 {
		if n := checked(t, full(), []int{1}, nil); n != -1 {
			t.Error("Check of a proof:", n)
		}
		if n := checked(t, part(), []int{1}, nil); n != 1 {
			t.Error("Check of G:", n)
		}
		if n := checked(t, formula(2), []int{1}); n != 0 {
			t.Error("Check of no clauses:", n)
		}
		if _, e := Check(full(), []int{3}); e != api.ErrRange {
			t.Error("Check of a variable too great:", e)
		}
		if _, e := Implied(full(), 0); e != api.ErrRange {
			t.Error("Implied of 0:", e)
		}
		if implied(t, full()) || !implied(t, full(), 1) {
			t.Error("Implied of F")
		}
	}
}
