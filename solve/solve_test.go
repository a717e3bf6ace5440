package solve

import (
	"math"
	"math/rand"
	"slices"
	"testing"

	"weephole/api"
	"weephole/cnf"
	"weephole/lit"
	"weephole/rup"
)

func formula(vars int, clauses ...[]int) api.Formula {
	return api.Formula{Vars: vars, Clauses: clauses}
}

// with returns a formula with more clauses.
func with(f api.Formula, more ...[]int) api.Formula {
	return formula(f.Vars, slices.Concat(f.Clauses, more)...)
}

// many returns n clauses that have the same literals; they share memory.
func many(n int, c ...int) [][]int {
	return slices.Repeat([][]int{c}, n)
}

// to returns the numbers from a to b.
func to(a, b int) []int {
	var list []int
	for x := a; x <= b; x++ {
		list = append(list, x)
	}
	return list
}

// negated returns the negatives of literals.
func negated(c []int) []int {
	list := slices.Clone(c)
	for i := range list {
		list[i] = -list[i]
	}
	return list
}

// satisfiable reports whether a formula has a model, from the definition: by trying all values.
func satisfiable(f api.Formula) bool {
	m := make([]bool, f.Vars)
	for bits := range 1 << f.Vars {
		for i := range m {
			m[i] = bits>>i&1 == 1
		}
		if holds(f, m) {
			return true
		}
	}
	return false
}

// holds reports whether a formula holds in a model.
func holds(f api.Formula, m []bool) bool {
	for _, c := range f.Clauses {
		if !slices.ContainsFunc(c, func(x int) bool { return m[max(x, -x)-1] == (x > 0) }) {
			return false
		}
	}
	return true
}

// checker finds out whether clauses are implied by those that it was given before, as rup.Check does; but it looks at each clause only when a literal that is watched becomes false, so it may be used for long proofs.
type checker struct {
	clauses [][]int
	watched map[int][]int // for each literal: the clauses to look at when it becomes false
	known   map[int]bool  // the literals that hold
	trail   []int         // the same, in their order
	next    int
	fails   bool // what is known without assumptions fails
}

func check(f api.Formula) *checker {
	p := &checker{watched: map[int][]int{}, known: map[int]bool{}}
	for _, c := range f.Clauses {
		p.add(c)
	}
	return p
}

// add adds a clause to those that are given.
func (p *checker) add(c []int) {
	c, always := lit.Norm(c...)
	if always || p.fails {
		return
	}
	// Literals that are not false come first, so that those that are watched are not false if possible.
	slices.SortStableFunc(c, func(a, b int) int {
		switch {
		case p.known[-a] == p.known[-b]:
			return 0
		case p.known[-a]:
			return 1
		}
		return -1
	})
	if len(c) == 0 || p.known[-c[0]] {
		p.fails = true
		return
	}
	if len(c) > 1 {
		i := len(p.clauses)
		p.clauses = append(p.clauses, c)
		p.watched[c[0]] = append(p.watched[c[0]], i)
		p.watched[c[1]] = append(p.watched[c[1]], i)
	}
	if len(c) == 1 || p.known[-c[1]] {
		p.learn(c[0])
		p.fails = !p.run()
	}
}

// learn makes a literal known to hold.
func (p *checker) learn(x int) {
	if !p.known[x] {
		p.known[x] = true
		p.trail = append(p.trail, x)
	}
}

// run makes known what follows; false: it fails.
func (p *checker) run() bool {
	for ; p.next < len(p.trail); p.next++ {
		x := -p.trail[p.next]
		list := p.watched[x]
		var kept []int
		for k, i := range list {
			c := p.clauses[i]
			if c[0] == x {
				c[0], c[1] = c[1], c[0]
			}
			other := 1 + slices.IndexFunc(c[1:], func(y int) bool { return !p.known[-y] })
			if !p.known[c[0]] && other > 0 {
				c[1], c[other] = c[other], c[1]
				p.watched[c[1]] = append(p.watched[c[1]], i)
				continue
			}
			kept = append(kept, i)
			if p.known[-c[0]] {
				p.watched[x] = append(kept, list[k+1:]...)
				return false
			}
			p.learn(c[0])
		}
		p.watched[x] = kept
	}
	return true
}

// implies reports whether a clause is implied.
func (p *checker) implies(c []int) bool {
	if p.fails {
		return true
	}
	before := len(p.trail)
	fails := false
	for _, x := range c {
		fails = fails || p.known[x]
		p.learn(-x)
	}
	fails = fails || !p.run()
	for _, x := range p.trail[before:] {
		delete(p.known, x)
	}
	p.trail, p.next = p.trail[:before], before
	return fails
}

// proves reports whether clauses are a proof that a formula has no model.
func proves(f api.Formula, proof [][]int) bool {
	p := check(f)
	for _, c := range proof {
		if lit.Check(f.Vars, c...) != api.OK || !p.implies(c) {
			return false
		}
		p.add(c)
	}
	return len(proof) > 0 && len(proof[len(proof)-1]) == 0
}

// show fails the test unless a result is what P7.1 says of its answer; proofs of up to most clauses are given to rup.Check.
func show(t *testing.T, f api.Formula, r api.Result, most int) {
	t.Helper()
	if r.Answer != api.Sat && len(r.Model) > 0 || r.Answer != api.Unsat && len(r.Proof) > 0 {
		t.Fatalf("the answer %d has %d values and a proof of %d clauses", r.Answer, len(r.Model), len(r.Proof))
	}
	switch r.Answer {
	case api.Unknown:
	case api.Sat:
		if n, e := cnf.First(f, r.Model...); n != -1 || e != api.OK {
			t.Fatalf("%d variables: no model has the %d values %v: %d, %d", f.Vars, len(r.Model), r.Model, n, e)
		}
	case api.Unsat:
		if !proves(f, r.Proof) {
			t.Fatalf("%d variables, %d clauses: no proof is %d", f.Vars, len(f.Clauses), r.Proof)
		}
		if len(r.Proof) <= most {
			if n, e := rup.Check(f, r.Proof...); n != -1 || e != api.OK {
				t.Fatalf("rup.Check of the proof %d: %d, %d", r.Proof, n, e)
			}
		}
	default:
		t.Fatal("no answer is", r.Answer)
	}
}

// solved returns the result of Solve, and fails the test if it is an error, or not what P7.1 says.
func solved(t *testing.T, f api.Formula, budget int) api.Result {
	t.Helper()
	r, e := Solve(f, budget)
	if e != api.OK {
		t.Fatalf("Solve(%d variables, %d clauses; %d): error %d", f.Vars, len(f.Clauses), budget, e)
	}
	show(t, f, r, 200)
	return r
}

// answer returns the answer for the budget 0.
func answer(t *testing.T, f api.Formula) uint8 {
	t.Helper()
	return solved(t, f, 0).Answer
}

// want fails the test unless the answer for the budget 0 is this one.
func want(t *testing.T, f api.Formula, a uint8) {
	t.Helper()
	if got := answer(t, f); got != a {
		t.Fatalf("%d variables, %d clauses: the answer is %d, want %d", f.Vars, len(f.Clauses), got, a)
	}
}

// expected is the answer for a formula, from the definition.
func expected(f api.Formula) uint8 {
	if satisfiable(f) {
		return api.Sat
	}
	return api.Unsat
}

// clauseOf returns a clause of n literals of the variables 1 to vars.
func clauseOf(r *rand.Rand, vars, n int) []int {
	c := make([]int, n)
	for i := range c {
		c[i] = (1 + r.Intn(vars)) * (1 - 2*r.Intn(2))
	}
	return c
}

// random returns a formula of n clauses of up to most literals.
func random(r *rand.Rand, vars, n, most int) api.Formula {
	f := formula(vars)
	for range n {
		f.Clauses = append(f.Clauses, clauseOf(r, vars, 1+r.Intn(most)))
	}
	return f
}

// threes returns a formula of n clauses of three different variables each.
func threes(r *rand.Rand, vars, n int) api.Formula {
	f := formula(vars)
	for len(f.Clauses) < n {
		c, always := lit.Norm(clauseOf(r, vars, 3)...)
		if !always && len(c) == 3 {
			f.Clauses = append(f.Clauses, c)
		}
	}
	return f
}

// both calls f with formulas of which some have a model and some have none, always the same ones, and fails the test unless there are many of both.
func both(t *testing.T, seed int64, times int, f func(r *rand.Rand, g api.Formula, a uint8)) {
	t.Helper()
	r := rand.New(rand.NewSource(seed))
	count := [3]int{}
	for i := range times {
		vars := 1 + i%9
		var g api.Formula
		if i%2 == 0 && vars > 3 {
			g = threes(r, vars, vars*4+r.Intn(2*vars))
		} else {
			g = random(r, vars, 1+r.Intn(3*vars), 1+r.Intn(4))
		}
		a := expected(g)
		count[a]++
		f(r, g, a)
	}
	if count[api.Sat] < times/4 || count[api.Unsat] < times/4 {
		t.Error("the formulas say too little: the answers are", count)
	}
}

// pigeons says that n+1 pigeons have n holes, one for each.
func pigeons(n int) api.Formula {
	f := formula(n * (n + 1))
	in := func(p, h int) int { return 1 + p*n + h }
	for p := range n + 1 {
		f.Clauses = append(f.Clauses, to(in(p, 0), in(p, n-1)))
		for q := range p {
			for h := range n {
				f.Clauses = append(f.Clauses, []int{-in(p, h), -in(q, h)})
			}
		}
	}
	return f
}

// parities says that the sums of n bits, added in two different orders, are different, or (same) equal.
func parities(r *rand.Rand, n int, same bool) api.Formula {
	f := formula(n)
	sum := func(a, b int) int {
		f.Vars++
		c := f.Vars
		f.Clauses = append(f.Clauses, []int{-a, b, c}, []int{a, -b, c}, []int{a, b, -c}, []int{-a, -b, -c})
		return c
	}
	all := func(order []int) int {
		x := 1 + order[0]
		for _, i := range order[1:] {
			x = sum(x, 1+i)
		}
		return x
	}
	a, b := all(r.Perm(n)), all(r.Perm(n))
	if same {
		b = -b
	}
	return with(f, []int{a, b}, []int{-a, -b})
}

// P7.1

func TestExamples(t *testing.T) {
	f := formula(3, []int{1, 2}, []int{-1, 3}, []int{-2, -3})
	want(t, f, api.Sat)
	f = formula(2, []int{1, 2}, []int{1, -2}, []int{-1, 2}, []int{-1, -2})
	want(t, f, api.Unsat)
	r := solved(t, formula(0), 0)
	if r.Answer != api.Sat || len(r.Model) != 0 {
		t.Error("no variables, no clauses:", r)
	}
	r = solved(t, formula(0, []int{}), 0)
	if r.Answer != api.Unsat || len(r.Proof) != 1 || len(r.Proof[0]) != 0 {
		t.Error("an empty clause:", r)
	}
	f = formula(1, []int{1}, []int{-1})
	want(t, f, api.Unsat)
	if r, e := Solve(f, -1); e != api.ErrRange || r.Answer != api.Unknown || r.Model != nil || r.Proof != nil {
		t.Error("the budget -1:", r, e)
	}
}

func TestErrors(t *testing.T) {
	long := slices.Repeat([]int{1}, api.MaxClause+1)
	tests := []struct {
		name   string
		f      api.Formula
		budget int
		want   api.Errno
	}{
		{"too few variables", formula(-1), 0, api.ErrRange},
		{"too many variables", formula(api.MaxVars + 1), 0, api.ErrRange},
		{"far too many variables", formula(math.MaxInt), 0, api.ErrRange},
		{"too many clauses", formula(1, many(api.MaxClauses+1, 1)...), 0, api.ErrLong},
		{"too many literals", formula(1, []int{1}, long), 0, api.ErrLong},
		{"a literal 0", formula(1, []int{1, 0}), 0, api.ErrRange},
		{"a variable that is too great", formula(2, []int{1, 2}, []int{3}), 0, api.ErrRange},
		{"the negative of one", formula(2, []int{1, 2}, []int{-3}), 0, api.ErrRange},
		{"the least number", formula(api.MaxVars, []int{math.MinInt}), 0, api.ErrRange},
		{"a fault behind an empty clause", formula(1, []int{}, []int{2}), 0, api.ErrRange},
		{"the least budgets", formula(1, []int{1}), -1, api.ErrRange},
		{"the very least budget", formula(1, []int{1}), math.MinInt, api.ErrRange},
		{"the greatest budgets", formula(1, []int{1}), 1<<40 + 1, api.ErrRange},
		{"the very greatest budget", formula(1, []int{1}), math.MaxInt, api.ErrRange},
		{"clauses before the budget", formula(1, long), -1, api.ErrLong},
		{"their number before the budget", formula(1, many(api.MaxClauses+1, 1)...), 1<<40 + 1, api.ErrLong},
		{"variables before the number of clauses", formula(-1, many(api.MaxClauses+1, 1)...), 0, api.ErrRange},
		{"the number of clauses before the clauses", formula(1, many(api.MaxClauses+1, 0)...), 0, api.ErrLong},
		{"the first clause before the second one", formula(1, long, []int{0}), 0, api.ErrLong},
	}
	for _, x := range tests {
		if r, e := Solve(x.f, x.budget); e != x.want || r.Answer != api.Unknown || r.Model != nil || r.Proof != nil {
			t.Errorf("%s: %v, error %d, want %d", x.name, r, e, x.want)
		}
	}
}

func TestBudgetsThatAreAllowed(t *testing.T) {
	for _, budget := range []int{0, 1, 2, 1000, 1<<40 - 1, 1 << 40} {
		r := solved(t, formula(2, []int{1}, []int{-1, 2}), budget)
		if r.Answer != api.Sat || !slices.Equal(r.Model, []bool{true, true}) {
			t.Error("the budget", budget, "has the result", r)
		}
	}
}

func TestClausesOfEveryKind(t *testing.T) {
	tests := []struct {
		name string
		f    api.Formula
		want uint8
	}{
		{"variables without clauses", formula(5), api.Sat},
		{"an empty clause behind others", formula(3, []int{1, 2}, []int{-3}, []int{}), api.Unsat},
		{"an empty clause before others", formula(3, []int{}, []int{1, 2}, []int{-3}), api.Unsat},
		{"nil clauses", formula(3, nil, nil), api.Unsat},
		{"one literal twice", formula(1, []int{1, 1}), api.Sat},
		{"one literal twice, and its negative", formula(1, []int{1, 1}, []int{-1, -1, -1}), api.Unsat},
		{"a literal and its negative", formula(1, []int{1, -1}), api.Sat},
		{"a clause that always holds", formula(2, []int{1, 2, -1}, []int{-1}, []int{-2}), api.Sat},
		{"the same clause again", formula(2, []int{1, 2}, []int{2, 1}, []int{1, 2, 1}, []int{-1}), api.Sat},
		{"the same literal alone again", formula(2, []int{-2}, []int{-2}, []int{2, 1}), api.Sat},
		{"a literal and its negative alone", formula(2, []int{2}, []int{1}, []int{-2}), api.Unsat},
		{"what follows step by step", formula(4, []int{-3, 4}, []int{-2, 3}, []int{-1, 2}, []int{1}, []int{-4, -1}), api.Unsat},
		{"a repeated literal beside another one", formula(2, []int{1, 1, 2}, []int{-1}, []int{-2, -2}), api.Unsat},
		{"a variable that is in no clause", formula(9, []int{1, 9}, []int{-9}), api.Sat},
		{"the greatest variables", formula(api.MaxVars, []int{api.MaxVars, -1}, []int{1}, []int{-api.MaxVars, -2}), api.Sat},
		{"a conflict of the greatest variables", formula(api.MaxVars, []int{api.MaxVars, api.MaxVars - 1}, []int{api.MaxVars, 1 - api.MaxVars}, []int{-api.MaxVars, api.MaxVars - 1}, []int{-api.MaxVars, 1 - api.MaxVars}), api.Unsat},
		{"as many literals as there may be", formula(api.MaxClause, to(1, api.MaxClause)), api.Sat},
		{"as many clauses as there may be", formula(3, many(api.MaxClauses, 2, -3)...), api.Sat},
	}
	for _, x := range tests {
		for _, budget := range []int{0, 1 << 40} {
			if r := solved(t, x.f, budget); r.Answer != x.want {
				t.Errorf("%s, the budget %d: the answer is %d, want %d", x.name, budget, r.Answer, x.want)
			}
		}
	}
}

func TestAllSmallFormulas(t *testing.T) {
	pool := [][]int{{}}
	for _, a := range []int{1, -1, 2, -2} {
		pool = append(pool, []int{a})
		for _, b := range []int{1, -1, 2, -2} {
			pool = append(pool, []int{a, b})
		}
	}
	var grow func(f api.Formula)
	count := [3]int{}
	grow = func(f api.Formula) {
		a := expected(f)
		want(t, f, a)
		count[a]++
		if len(f.Clauses) == 3 {
			return
		}
		for _, c := range pool {
			grow(with(f, c))
		}
	}
	grow(formula(2))
	if count[api.Sat] < 2000 || count[api.Unsat] < 2000 {
		t.Error("the formulas say too little: the answers are", count)
	}
}

func TestAllSetsOfClausesOfThreeVariables(t *testing.T) {
	var pool [][]int
	for i := 1; i < 27; i++ {
		var c []int
		for v, k := 1, i; v <= 3; v, k = v+1, k/3 {
			if x := v * (k%3 - 1); x != 0 {
				c = append(c, x)
			}
		}
		if len(c) > 1 {
			pool = append(pool, c)
		}
	}
	var grow func(f api.Formula, from int)
	count := [3]int{}
	grow = func(f api.Formula, from int) {
		a := expected(f)
		want(t, f, a)
		count[a]++
		if len(f.Clauses) == 5 {
			return
		}
		for i := from; i < len(pool); i++ {
			grow(with(f, pool[i]), i+1)
		}
	}
	grow(formula(3), 0)
	if count[api.Sat] < 10000 || count[api.Unsat] < 50 {
		t.Error("the formulas say too little: the answers are", count)
	}
}

func TestPigeons(t *testing.T) {
	for n := 1; n <= 6; n++ {
		f := pigeons(n)
		want(t, f, api.Unsat)
		// Without one pair that excludes each other, or without one pigeon, there is a model.
		want(t, formula(f.Vars, f.Clauses[:len(f.Clauses)-1]...), api.Sat)
		want(t, formula(f.Vars, slices.Delete(slices.Clone(f.Clauses), 0, 1)...), api.Sat)
	}
}

func TestParities(t *testing.T) {
	r := rand.New(rand.NewSource(71))
	for n := 2; n <= 16; n++ {
		want(t, parities(r, n, false), api.Unsat)
		want(t, parities(r, n, true), api.Sat)
	}
}

func TestLargerFormulas(t *testing.T) {
	r := rand.New(rand.NewSource(72))
	count := [3]int{}
	for i := range 60 {
		vars := 30 + i
		count[answer(t, threes(r, vars, vars*43/10))]++
		want(t, threes(r, vars, vars*8), api.Unsat)
		want(t, threes(r, vars*20, vars*60), api.Sat)
	}
	if count[api.Sat] < 10 || count[api.Unsat] < 10 {
		t.Error("the formulas say too little: the answers are", count)
	}
}

func TestFormulasWithAHiddenModel(t *testing.T) {
	r := rand.New(rand.NewSource(73))
	for vars := 20; vars <= 200; vars += 5 {
		m := make([]bool, vars)
		for i := range m {
			m[i] = r.Intn(2) == 1
		}
		f := formula(vars)
		for _, c := range threes(r, vars, vars*8).Clauses {
			if lit.Holds(m, c...) {
				f.Clauses = append(f.Clauses, c)
			}
		}
		want(t, f, api.Sat)
	}
}

func TestLargestFormulas(t *testing.T) {
	n := api.MaxVars
	chain := make([][]int, 0, n+1)
	for v := 1; v < n; v++ {
		chain = append(chain, []int{-v, v + 1})
	}
	want(t, formula(n, chain...), api.Sat)
	chain = append(chain, []int{-n})
	r := solved(t, formula(n, chain...), 0)
	if r.Answer != api.Sat || slices.Contains(r.Model, true) {
		t.Error("without the last variable another one is true")
	}
	r, e := Solve(formula(n, append(chain[:n-1:n-1], []int{1})...), 0)
	if r.Answer != api.Sat || slices.Contains(r.Model, false) || e != api.OK {
		t.Error("with the first variable another one is false:", e)
	}
	r, e = Solve(formula(n, append(chain[1:], []int{2})...), 0)
	if r.Answer != api.Unsat || len(r.Proof) != 1 || len(r.Proof[0]) != 0 || e != api.OK {
		t.Error("what follows from the second variable is no conflict:", r.Answer, e)
	}
}

// searched returns the solver of a formula after a search without a budget, and fails the test if the result is not what P7.1 says.
func searched(t *testing.T, f api.Formula) (*solver, uint8) {
	t.Helper()
	s, a := start(f).find(f, 0)
	show(t, f, s.result(a), 0)
	return s, a
}

func TestLongSearches(t *testing.T) {
	r := rand.New(rand.NewSource(74))
	count := [3]int{}
	for _, f := range []api.Formula{
		threes(r, 170, 170*44/10),
		threes(r, 190, 190*44/10),
		threes(r, 230, 230*41/10),
		threes(r, 230, 230*41/10),
		pigeons(7),
		parities(r, 16, false),
	} {
		s, a := searched(t, f)
		// Otherwise activities were not divided, and no clauses were forgotten.
		if s.conflicts > 2*forgetFirst {
			count[a]++
			if s.forgotten == 0 || s.runs < 20 {
				t.Error("after", s.conflicts, "conflicts clauses were forgotten", s.forgotten, "times, in", s.runs, "runs")
			}
			if x := slices.Max(s.activity); x > 1<<48 {
				t.Error("the greatest activity is", x)
			}
		}
	}
	if count[api.Unsat] < 2 || count[api.Sat] < 1 {
		t.Error("the searches say too little: the answers of the long ones are", count)
	}
}

// refuted returns the clauses that say with two more variables that c holds, but with no values of these: c is implied, but not by unit propagation.
func refuted(a, b int, c ...int) [][]int {
	var list [][]int
	for _, x := range []int{a, -a} {
		for _, y := range []int{b, -b} {
			list = append(list, append([]int{x, y}, c...))
		}
	}
	return list
}

// halves returns clauses from which one follows with all of the literals of c, which may be too many for one clause; with the last literal in both, because only then nothing follows before all but this one are false.
func halves(t, u int, c []int) [][]int {
	last := len(c) - 1
	half := last / 2
	return [][]int{
		append([]int{t}, slices.Concat(c[:half], c[last:])...),
		append([]int{u}, slices.Concat(c[half:last], c[last:])...),
		{-t, -u},
	}
}

// decisions returns formulas without a model for which it seems, if the first n variables get their values first, that there is no shorter clause to learn than one with all of them.
func decisions(n int) []api.Formula {
	first := to(1, n)
	together := formula(n+5, halves(n+1, n+2, first)...)
	together = with(together, refuted(n+3, n+4, -(n+5))...)
	alone := formula(n+4, halves(n+1, n+2, first)...)
	negatives := formula(n+4, halves(n+1, n+2, negated(first))...)
	twice := formula(n+8, halves(n+1, n+2, first)...)
	twice = with(twice, halves(n+3, n+4, negated(first))...)
	for _, v := range first {
		together.Clauses = append(together.Clauses, []int{-v, n + 5})
		alone.Clauses = append(alone.Clauses, refuted(n+3, n+4, -v)...)
		negatives.Clauses = append(negatives.Clauses, refuted(n+3, n+4, v)...)
		twice.Clauses = append(twice.Clauses, refuted(n+5, n+6, -v)...)
		twice.Clauses = append(twice.Clauses, refuted(n+7, n+8, v)...)
	}
	return []api.Formula{together, alone, negatives, twice}
}

// blocks returns a formula without a model: each value of the first two variables is excluded by n variables, of which each follows from the first one.
func blocks(n int) api.Formula {
	f := formula(2)
	for _, a := range []int{1, -1} {
		c := to(f.Vars+1, f.Vars+n)
		f.Vars += n
		for _, x := range c {
			f.Clauses = append(f.Clauses, []int{a, -x})
		}
		for _, b := range []int{2, -2} {
			f.Vars += 2
			f = with(f, halves(f.Vars-1, f.Vars, append(slices.Clone(c), b))...)
		}
	}
	return f
}

func TestLongClauses(t *testing.T) {
	for _, n := range []int{50, api.MaxClause - 1, api.MaxClause, api.MaxClause + 1, 2*api.MaxClause - 4} {
		for i, f := range append(decisions(n), blocks(n)) {
			if e := cnf.Check(f); e != api.OK {
				t.Fatal("the formula is not valid:", e)
			}
			if a := answer(t, f); a != api.Unsat {
				t.Errorf("%d variables, the formula %d: the answer is %d", n, i, a)
			}
		}
	}
}

// evasions returns how many conflicts are evaded for a formula.
func evasions(t *testing.T, f api.Formula) int {
	t.Helper()
	s, _ := searched(t, f)
	return s.evaded
}

func TestLongClausesAreThere(t *testing.T) {
	for i, f := range decisions(8000)[:2] {
		if n := evasions(t, f); n == 0 || n > 20 {
			t.Error("the formula", i, "of conflicts with 8000 decisions:", n, "are evaded")
		}
	}
	if n := evasions(t, decisions(4000)[0]) + evasions(t, blocks(8000)); n != 0 {
		t.Error(n, "conflicts with fewer decisions are evaded")
	}
}

func TestLongClausesOfFormulasWithAModel(t *testing.T) {
	for i, f := range decisions(2*api.MaxClause - 4)[:3] {
		// Nothing but the last clause excludes the value of the last one of the first variables with which the others hold.
		f.Clauses = f.Clauses[:len(f.Clauses)-1]
		if a := answer(t, f); a != api.Sat {
			t.Errorf("the formula %d: the answer is %d", i, a)
		}
	}
}

// patterns returns a formula without a model in which each of the given number of conflicts that are evaded leads to the next one, if the first n variables get their values first; then there is one with the last of these true, and one with it false. All of them have n decisions. What is left follows from four short clauses.
func patterns(n, evaded int) api.Formula {
	is := to(1, n) // the pattern, as a clause that does not hold in it
	f := formula(n)
	exclude := func() {
		f.Vars++
		half := n / 2
		f = with(f,
			append(slices.Concat(is[:half], is[n-1:]), f.Vars),
			append(slices.Concat(is[half:n-1], is[n-1:]), -f.Vars))
	}
	for e := 1; e <= evaded; e++ {
		exclude()
		step := 2 + e%31
		for i := e / 31 % step; i < n; i += step {
			is[n-1-i] *= -1
		}
	}
	exclude()
	is[n-1] *= -1
	exclude()
	f.Vars += 3
	for _, x := range is[:n-1] {
		f.Clauses = append(f.Clauses, []int{-f.Vars, -x})
	}
	return with(f, refuted(f.Vars-1, f.Vars-2, f.Vars)...)
}

func TestPatterns(t *testing.T) {
	for _, n := range []int{50, api.MaxClause - 1, api.MaxClause, api.MaxClause + 1, 2*api.MaxClause - 4} {
		for _, evaded := range []int{0, 1, firstPatience - 1, firstPatience, firstPatience + 1, 3 * firstPatience, 1000} {
			f := patterns(n, evaded)
			s, a := searched(t, f)
			if a != api.Unsat {
				t.Errorf("%d variables, %d patterns: the answer is %d", n, evaded, a)
			}
			if n > api.MaxClause && s.evaded != min(evaded+1, firstPatience) {
				t.Errorf("the formula of %d variables and %d patterns says too little: %d conflicts are evaded", n, evaded, s.evaded)
			}
			f.Clauses = f.Clauses[:len(f.Clauses)-1]
			want(t, f, api.Sat)
		}
	}
	f := patterns(4100, firstPatience)
	r := solved(t, f, 0)
	if n, e := rup.Check(f, r.Proof...); n != -1 || e != api.OK || r.Answer != api.Unsat {
		t.Errorf("rup.Check of a proof of %d clauses: %d, %d", len(r.Proof), n, e)
	}
}

// impatient returns the solver of a formula which evades fewer conflicts, and for which the clauses of a proof have fewer literals.
func impatient(f api.Formula, patience, longest int) *solver {
	s := start(f)
	s.patience, s.longest = patience, longest
	return s
}

// within fails the test unless the clauses of a proof have at most so many literals.
func within(t *testing.T, longest int, proof [][]int) {
	t.Helper()
	for _, c := range proof {
		if len(c) > longest {
			t.Fatalf("a clause of the proof has %d literals", len(c))
		}
	}
}

// Answers and proofs are right also when no conflict is evaded.
func TestWithoutPatience(t *testing.T) {
	list := append(decisions(5000), blocks(5000), patterns(5000, 0), patterns(5000, 30))
	beyond := 0
	for i, f := range list {
		s := impatient(f, 0, api.MaxClause)
		if a := s.search(0); a != api.Unsat {
			t.Errorf("the formula %d: the answer is %d", i, a)
		}
		within(t, api.MaxClause, s.proof)
		beyond += min(1, len(s.beyond))
		s, a := impatient(f, 0, api.MaxClause).find(f, 0)
		show(t, f, s.result(a), 0)
		if a != api.Unsat {
			t.Errorf("the formula %d: the answer is %d at last", i, a)
		}
	}
	if beyond < 4 {
		t.Error("the formulas say too little: clauses that are too long are learned for only", beyond)
	}
	for i, f := range decisions(5000)[:3] {
		f.Clauses = f.Clauses[:len(f.Clauses)-1]
		s, a := impatient(f, 0, api.MaxClause).find(f, 0)
		show(t, f, s.result(a), 0)
		if a != api.Sat {
			t.Errorf("the formula %d without its last clause: the answer is %d", i, a)
		}
	}
}

// If the clauses of proofs had to be much shorter, what is done about clauses that are too long would be done for formulas of all kinds.
func TestShortProofs(t *testing.T) {
	r := rand.New(rand.NewSource(89))
	count := [4]int{} // how often there were so many solvers, or more
	for i := range 1500 {
		longest := 2 + i%4
		vars := 8 + r.Intn(10*longest)
		f := threes(r, vars, vars*(45+r.Intn(10))/10)
		s := impatient(f, r.Intn(3), longest)
		a := s.search(0)
		n := 0
		for ; a == api.Unsat && len(s.beyond) > 0; n++ {
			s, a = s.again(f, 0)
		}
		show(t, f, s.result(a), 20)
		within(t, longest, s.proof)
		if a == api.Unknown {
			t.Fatal("Unknown without a budget")
		}
		if a == api.Unsat {
			count[min(n, 3)]++
		}
		last, b := impatient(f, 1, longest).find(f, 0)
		show(t, f, last.result(b), 20)
		if a != b {
			t.Fatal("the answers are", a, "and", b)
		}
	}
	if slices.Min(count[:]) < 20 {
		t.Error("the formulas say too little: more solvers are needed", count)
	}
}

func TestShortProofsOfHardFormulas(t *testing.T) {
	r := rand.New(rand.NewSource(90))
	for i, f := range []api.Formula{threes(r, 120, 550), threes(r, 150, 680), pigeons(6), parities(r, 12, false)} {
		for _, longest := range []int{9, 12} {
			for _, patience := range []int{0, 10} {
				s, a := impatient(f, patience, longest).find(f, 0)
				show(t, f, s.result(a), 0)
				within(t, longest, s.proof)
				if a != api.Unsat {
					t.Errorf("the formula %d: the answer is %d", i, a)
				}
			}
		}
	}
}

// P7.2

func TestUnknown(t *testing.T) {
	r := rand.New(rand.NewSource(75))
	count := [3]int{}
	for i := range 300 {
		vars := 10 + i%60
		f := threes(r, vars, vars*45/10)
		for _, budget := range []int{1, 2, 3, 5, 10, 30, 100, 1000} {
			s, a := start(f).find(f, budget)
			show(t, f, s.result(a), 0)
			if a == api.Unknown && s.conflicts < budget {
				t.Fatalf("after %d conflicts with the budget %d the answer is Unknown", s.conflicts, budget)
			}
			if got := solved(t, f, budget).Answer; got != a {
				t.Fatalf("the budget %d: the answers are %d and %d", budget, a, got)
			}
			count[a]++
		}
	}
	if slices.Min(count[:]) < 300 {
		t.Error("the formulas say too little: the answers are", count)
	}
}

func TestUnknownOnTheWayToAShortProof(t *testing.T) {
	r := rand.New(rand.NewSource(91))
	later := 0
	for range 300 {
		vars := 15 + r.Intn(30)
		f := threes(r, vars, vars*5)
		first := impatient(f, 1, 4)
		if a := first.search(0); a == api.Sat {
			continue
		}
		last, all := impatient(f, 1, 4).find(f, 0)
		for budget := 1; budget <= last.conflicts+1; budget += 1 + r.Intn(4) {
			s, a := impatient(f, 1, 4).find(f, budget)
			show(t, f, s.result(a), 0)
			switch {
			case a == api.Unknown && s.conflicts < budget:
				t.Fatalf("after %d conflicts with the budget %d the answer is Unknown", s.conflicts, budget)
			case a == api.Unknown && budget > first.conflicts:
				later++
			case a != api.Unknown && a != all:
				t.Fatalf("with the budget %d the answer is %d", budget, a)
			case a != api.Unknown && s.conflicts > budget:
				t.Fatalf("with the budget %d there are %d conflicts", budget, s.conflicts)
			}
		}
		if s, a := impatient(f, 1, 4).find(f, last.conflicts+1); a != all || s.conflicts != last.conflicts {
			t.Fatalf("with one conflict more than needed the answer is %d", a)
		}
	}
	if later < 100 {
		t.Error("the formulas say too little: Unknown after the first search are only", later)
	}
}

func TestWithoutABudgetNothingIsUnknown(t *testing.T) {
	r := rand.New(rand.NewSource(76))
	most := 0
	for i := range 200 {
		vars := 60 + i%60
		s, a := searched(t, threes(r, vars, vars*43/10))
		if a == api.Unknown {
			t.Error("Unknown after", s.conflicts, "conflicts")
		}
		most = max(most, s.conflicts)
	}
	if most < 300 {
		t.Error("the formulas say too little: there are never more conflicts than", most)
	}
}

func TestBudgetsOfFormulasWithoutClauses(t *testing.T) {
	for _, n := range []int{0, 1, 2, 30, 1000} {
		for _, budget := range []int{1, 2, 1 << 40} {
			if r := solved(t, formula(n), budget); r.Answer != api.Sat || len(r.Model) != n {
				t.Errorf("%d variables and no clauses, the budget %d: %v", n, budget, r)
			}
		}
	}
}

// P7.3

func TestAnswers(t *testing.T) {
	both(t, 77, 3000, func(_ *rand.Rand, f api.Formula, a uint8) { want(t, f, a) })
}

// P7.4

func TestAnswersWithBudgets(t *testing.T) {
	unknown := 0
	both(t, 78, 1000, func(_ *rand.Rand, f api.Formula, a uint8) {
		for budget := range 12 {
			switch got := solved(t, f, budget).Answer; got {
			case a:
			case api.Unknown:
				unknown++
			default:
				t.Fatalf("%d, the budget %d: the answer is %d, want %d", f, budget, got, a)
			}
		}
	})
	if unknown < 100 {
		t.Error("the formulas say too little: only", unknown, "answers are Unknown")
	}
}

// P7.5

// changed returns a formula with another name for each variable, some of them negated, and with the clauses and their literals in another order.
func changed(r *rand.Rand, f api.Formula) api.Formula {
	names := r.Perm(f.Vars)
	for i := range names {
		names[i] = (names[i] + 1) * (1 - 2*r.Intn(2))
	}
	g := formula(f.Vars)
	for _, i := range r.Perm(len(f.Clauses)) {
		var c []int
		for _, k := range r.Perm(len(f.Clauses[i])) {
			x := f.Clauses[i][k]
			if x > 0 {
				c = append(c, names[x-1])
			} else {
				c = append(c, -names[-x-1])
			}
		}
		g.Clauses = append(g.Clauses, c)
	}
	return g
}

func TestOtherNamesAndOrders(t *testing.T) {
	both(t, 79, 1000, func(r *rand.Rand, f api.Formula, a uint8) {
		for range 3 {
			f = changed(r, f)
			want(t, f, a)
		}
	})
	r := rand.New(rand.NewSource(80))
	for i := range 60 {
		f := threes(r, 40+i, (40+i)*43/10)
		a := answer(t, f)
		for range 3 {
			want(t, changed(r, f), a)
		}
	}
	for range 5 {
		want(t, changed(r, pigeons(6)), api.Unsat)
	}
}

func TestMoreClausesWithoutAModel(t *testing.T) {
	both(t, 81, 1000, func(r *rand.Rand, f api.Formula, a uint8) {
		if a == api.Sat {
			return
		}
		for range 3 {
			f = with(f, random(r, f.Vars, 1+r.Intn(5), 4).Clauses...)
			want(t, f, api.Unsat)
		}
	})
	f := pigeons(5)
	want(t, with(f, []int{1}, []int{-8, 9}, []int{-30, 30}), api.Unsat)
	want(t, with(f, f.Clauses...), api.Unsat)
}

// P7.6

func TestImpliedClauses(t *testing.T) {
	count := [3]int{}
	both(t, 82, 600, func(r *rand.Rand, f api.Formula, a uint8) {
		g := f
		for range 30 {
			c := clauseOf(r, f.Vars, r.Intn(4))
			is, e := rup.Implied(g, c...)
			if e != api.OK {
				t.Fatal("rup.Implied:", e)
			}
			if is {
				g = with(g, c)
				count[a]++
			}
		}
		want(t, g, a)
	})
	if count[api.Sat] < 300 || count[api.Unsat] < 300 {
		t.Error("the formulas say too little: clauses are implied", count)
	}
}

func TestLearnedClauses(t *testing.T) {
	r := rand.New(rand.NewSource(83))
	for i := range 60 {
		f := threes(r, 40+i, (40+i)*43/10)
		s, a := searched(t, f)
		want(t, with(f, s.proof...), a)
	}
}

// P7.7

func TestModelAsClauses(t *testing.T) {
	more := [3]int{}
	both(t, 84, 1000, func(_ *rand.Rand, f api.Formula, a uint8) {
		seen := map[string]bool{}
		for a == api.Sat {
			m := solved(t, f, 0).Model
			var literals []int
			key := ""
			for i, x := range m {
				if x {
					literals = append(literals, i+1)
					key += "1"
				} else {
					literals = append(literals, -i-1)
					key += "0"
				}
			}
			if seen[key] {
				t.Fatalf("%d: the model %v is there again", f, m)
			}
			seen[key] = true
			alone := f
			for _, x := range literals {
				alone = with(alone, []int{x})
			}
			if r := solved(t, alone, 0); r.Answer != api.Sat || !slices.Equal(r.Model, m) {
				t.Fatalf("with the model %v the result is %v", m, r)
			}
			f = with(f, negated(literals))
			a = answer(t, f)
			more[a]++
		}
		if satisfiable(f) {
			t.Fatalf("%d has a model", f)
		}
	})
	if more[api.Sat] < 1000 || more[api.Unsat] < 300 {
		t.Error("the formulas say too little: the answers without a model are", more)
	}
}

// R3 and R6

// spare returns an equal formula with memory behind the clauses, and behind their literals, that is not part of it.
func spare(f api.Formula) api.Formula {
	g := formula(f.Vars, append(make([][]int, 0, len(f.Clauses)+3), f.Clauses...)...)
	for i, c := range g.Clauses {
		g.Clauses[i] = append(make([]int, 0, len(c)+3), c...)
	}
	return g
}

func TestArgumentsStay(t *testing.T) {
	both(t, 85, 500, func(_ *rand.Rand, f api.Formula, a uint8) {
		g := spare(f)
		want(t, g, a)
		if !cnf.Equal(f, g) {
			t.Fatalf("%d became %d", f, g)
		}
		if behind := g.Clauses[:cap(g.Clauses)][len(g.Clauses):]; slices.ContainsFunc(behind, func(c []int) bool { return c != nil }) {
			t.Fatalf("behind the clauses there is %d", behind)
		}
		for _, c := range g.Clauses {
			if behind := c[:cap(c)][len(c):]; !slices.Equal(behind, make([]int, len(behind))) {
				t.Fatalf("behind a clause there is %d", behind)
			}
		}
	})
}

// spoil changes all of a result, and what is behind its parts.
func spoil(r api.Result) {
	for i := range r.Model[:cap(r.Model)] {
		r.Model[:cap(r.Model)][i] = false
	}
	for _, c := range r.Proof {
		c = c[:cap(c)]
		for i := range c {
			c[i] = -9
		}
	}
}

func equal(a, b api.Result) bool {
	return a.Answer == b.Answer && slices.Equal(a.Model, b.Model) && slices.EqualFunc(a.Proof, b.Proof, slices.Equal[[]int])
}

func TestResultsAreIndependent(t *testing.T) {
	r := rand.New(rand.NewSource(86))
	long := 0
	for i := range 100 {
		vars := 20 + i%50
		f := threes(r, vars, vars*43/10)
		g := cnf.Copy(f)
		first, second := solved(t, f, 0), solved(t, f, 0)
		if !equal(first, second) {
			t.Fatalf("%d has the results %v and %v", f, first, second)
		}
		long = max(long, len(first.Proof))
		spoil(first)
		if !cnf.Equal(f, g) {
			t.Fatal("the result shares memory with the formula")
		}
		if third := solved(t, f, 0); !equal(second, third) {
			t.Fatalf("%d has the results %v and %v", f, second, third)
		}
	}
	if long < 20 {
		t.Error("the formulas say too little: the longest proof has", long, "clauses")
	}
}

func TestClausesOfAProofAreIndependent(t *testing.T) {
	r := rand.New(rand.NewSource(87))
	for range 20 {
		f := threes(r, 40, 200)
		proof := solved(t, f, 0).Proof
		before := api.Formula{Clauses: proof}
		for i, c := range proof {
			want := cnf.Copy(before)
			for k := range c[:cap(c)] {
				c[:cap(c)][k]++
			}
			for k := range c {
				want.Clauses[i][k]++
			}
			if !cnf.Equal(before, want) {
				t.Fatalf("the clause %d shares memory with another one", i)
			}
		}
	}
}

// The parts of the solver

func TestLuby(t *testing.T) {
	var list []int
	for i := 1; i <= 20; i++ {
		list = append(list, luby(i))
	}
	if !slices.Equal(list, []int{1, 1, 2, 1, 1, 2, 4, 1, 1, 2, 1, 1, 2, 4, 8, 1, 1, 2, 1, 1}) {
		t.Error("the sequence begins with", list)
	}
	if x := luby(1<<40 - 1); x != 1<<39 {
		t.Error("the number 2^40-1 is", x)
	}
}

func TestSecond(t *testing.T) {
	s := start(formula(6))
	for v := 1; v <= 5; v++ {
		s.levels = append(s.levels, level{start: len(s.trail)})
		s.assign(literalOf(-v), none)
	}
	s.assign(literalOf(-6), none)
	c := literalsOf([]int{6, 2, 1, 4, 3})
	if at := s.second(c); at != 4 || !slices.Equal(numbersOf(c), []int{6, 4, 1, 2, 3}) {
		t.Error("the literals of the clause are", numbersOf(c), "and the level is", at)
	}
	if at := s.second(c[:1]); at != 0 {
		t.Error("of one literal the level is", at)
	}
}

// Without activities, or with the same ones for all variables of a conflict, these take many times as many conflicts.
func TestActivitiesChangeTheWay(t *testing.T) {
	if s, _ := searched(t, parities(rand.New(rand.NewSource(88)), 15, false)); s.conflicts > 2000 {
		t.Error("two sums of 15 bits:", s.conflicts, "conflicts")
	}
	if s, _ := searched(t, decisions(1000)[1]); s.conflicts > 50 {
		t.Error("1000 decisions that fail alone:", s.conflicts, "conflicts")
	}
}

func TestForget(t *testing.T) {
	s := start(formula(9))
	add := func(glue int, c ...int) { s.add(literalsOf(c), glue) }
	add(0, 1, 2, 3)
	add(2, 1, 2, 3, 4)
	add(5, 1, 2, 4)
	add(3, 1, 2, 5)
	add(5, 1, 2, 6, 7)
	add(3, 1, 2, 6, 7)
	add(4, 2, 3)
	add(3, -9, 8)
	add(3, 1, -9, -8, 2)
	s.assign(literalOf(9), none)
	s.assign(literalOf(8), none)
	s.forget(s.value)
	var got [][]int
	for r := range s.refs {
		got = append(got, append([]int{s.glueOf(r)}, numbersOf(s.literals(r))...))
	}
	// Of the seven clauses with a glue above 2 three are forgotten: those with the greatest glue, of several those with the most literals.
	want := [][]int{{0, 1, 2, 3}, {2, 1, 2, 3, 4}, {3, 1, 2, 5}, {3, 1, 2, 6, 7}, {3, 1, 2}}
	if !slices.EqualFunc(got, want, slices.Equal[[]int]) {
		t.Error("the clauses are", got)
	}
}

func TestAdmit(t *testing.T) {
	s := start(formula(6, []int{-1}, []int{2}))
	s.propagate()
	s.admit(literalsOf([]int{1, 3, -2, 4}))
	s.admit(literalsOf([]int{5, 2}))
	s.admit(literalsOf([]int{1, 6}))
	if len(s.proof) != 3 || !slices.Equal(s.proof[0], []int{1, 3, -2, 4}) {
		t.Error("the proof is", s.proof)
	}
	if !slices.Equal(numbersOf(s.trail), []int{-1, 2, 6}) || s.propagate() != none || s.absurd {
		t.Error("without decisions there hold", numbersOf(s.trail))
	}
	s.levels = append(s.levels, level{start: len(s.trail)})
	s.assign(literalOf(-3), none)
	if s.propagate() != none || !slices.Equal(numbersOf(s.trail), []int{-1, 2, 6, -3, 4}) {
		t.Error("with -3 there hold", numbersOf(s.trail))
	}
	s.back(0)
	s.admit(literalsOf([]int{-6, 1}))
	if !s.absurd {
		t.Error("a clause that is false is no conflict")
	}
}

func TestImplies(t *testing.T) {
	count := [2]int{}
	both(t, 92, 1000, func(r *rand.Rand, f api.Formula, _ uint8) {
		s := start(f)
		if s.absurd || s.propagate() != none {
			return
		}
		for range 10 {
			c := clauseOf(r, f.Vars, r.Intn(4))
			is, _ := rup.Implied(f, c...)
			if got := s.implies(literalsOf(c)); got != is {
				t.Fatalf("whether %d implies %d: %v", f, c, got)
			}
			if is {
				count[1]++
			} else {
				count[0]++
			}
		}
	})
	if slices.Min(count[:]) < 500 {
		t.Error("the formulas say too little: clauses are implied, or not,", count)
	}
}

func TestTake(t *testing.T) {
	f := formula(6, []int{1, 2}, []int{1, -2}, []int{-1, -3, 4}, []int{-3, -4, 5}, []int{5, 6, 2}, []int{5, 6, -2})
	s := start(f)
	s.proof = [][]int{{1}}
	s.beyond = [][]literal{literalsOf([]int{1, 2, 3}), literalsOf([]int{-3, 5}), literalsOf([]int{6}), literalsOf([]int{5, 6})}
	s.longest = 2
	to := impatient(f, 0, 2)
	guides := to.take(s)
	if len(guides) != 2 || !slices.Equal(numbersOf(guides[0]), []int{1, 2, 3}) || !slices.Equal(numbersOf(guides[1]), []int{6}) {
		t.Error("the guides are", guides)
	}
	if !slices.EqualFunc(to.proof, [][]int{{1}, {-3, 5}, {5, 6}}, slices.Equal[[]int]) {
		t.Error("the proof is", to.proof)
	}
	// If there is a conflict before the last one of the clauses, the others no longer matter.
	f = with(f, []int{-1, 6}, []int{-1, -6})
	to = impatient(f, 0, 2)
	guides = to.take(s)
	if a, arrived := to.follow(guides, 0); a != api.Unsat || !arrived || len(guides) > 0 {
		t.Error("after a conflict the answer is", a, arrived, "with the guides", guides)
	}
	show(t, f, to.result(api.Unsat), 9)
}

func TestFollow(t *testing.T) {
	r := rand.New(rand.NewSource(93))
	count := [2]int{}
	for i := range 400 {
		longest := 3 + i%2
		vars := 10 + r.Intn(10*longest)
		f := threes(r, vars, vars*5)
		s := impatient(f, 0, longest)
		if a := s.search(0); a != api.Unsat || len(s.beyond) == 0 {
			continue
		}
		to := impatient(f, 0, longest)
		a, arrived := to.follow(to.take(s), 0)
		within(t, longest, to.proof)
		switch {
		case arrived && a == api.Unsat:
			count[1]++
			show(t, f, to.result(a), 9)
		case !arrived && a == api.Unknown && len(to.levels) == 0:
			count[0]++
		default:
			t.Fatal("the answer is", a, arrived, "at the level", len(to.levels))
		}
	}
	if slices.Min(count[:]) < 50 {
		t.Error("the formulas say too little: the guides lead to a proof, or not,", count)
	}
}

func TestGuide(t *testing.T) {
	s := start(formula(5))
	for _, x := range []int{1, -2} {
		s.assign(literalOf(x), none)
	}
	guides := [][]literal{
		literalsOf([]int{1, 3}),
		literalsOf([]int{3, 1}),
		literalsOf([]int{2, -1, 1}),
		literalsOf([]int{-1, 3, 2, 4}),
		literalsOf([]int{3, 4, 5}),
		literalsOf([]int{2, -1, -4}),
		literalsOf([]int{5}),
	}
	for range 2 {
		if i, l := s.guide(guides); i != 5 || l != literalOf(-4) {
			t.Error("the guide is", i, "for", l.number())
		}
		if i, l := s.guide(guides[6:]); i != 0 || l != literalOf(5) {
			t.Error("the guide of one literal is", i, "for", l.number())
		}
	}
	for i, want := range []int{2, 2, 2, 2, 2, 1, 1} {
		if n := s.open(guides[i]); n != want {
			t.Error("the guide", i, "has", n, "open literals")
		}
	}
	if n := s.open(literalsOf([]int{2, -1})); n != 0 {
		t.Error("a clause that is false has", n, "open literals")
	}
}
