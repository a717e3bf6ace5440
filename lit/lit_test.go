package lit

import (
	"math"
	"slices"
	"testing"

	"weephole/api"
)

// edges are numbers at which the absolute value, its negative and the order may go wrong, in the order of Less.
func edges() []int {
	return []int{
		0, 1, -1, 2, -2, 3, -3,
		api.MaxClause, -api.MaxClause, api.MaxVars, -api.MaxVars, api.MaxVars + 1, -api.MaxVars - 1,
		math.MaxInt32, -math.MaxInt32, math.MaxInt32 + 1, math.MinInt32, math.MaxUint32, -math.MaxUint32, 1 << 32, -1 << 32,
		1 << 53, -1 << 53, 1<<53 + 1, -1<<53 - 1,
		math.MaxInt - 1, -math.MaxInt + 1, math.MaxInt, -math.MaxInt, math.MinInt,
	}
}

// lists calls f with every list of up to most numbers, each of which is from -span to span.
func lists(span, most int, f func(c []int)) {
	var grow func(c []int)
	grow = func(c []int) {
		f(slices.Clone(c))
		if len(c) == most {
			return
		}
		for x := -span; x <= span; x++ {
			grow(append(c, x))
		}
	}
	grow(make([]int, 0, most))
}

// models calls f with every model of up to most variables.
func models(most int, f func(m []bool)) {
	for n := 0; n <= most; n++ {
		for bits := range 1 << n {
			m := make([]bool, n)
			for i := range m {
				m[i] = bits>>i&1 == 1
			}
			f(m)
		}
	}
}

// spread returns n different literals that have no variable in common, in no order.
func spread(n int) []int {
	c := make([]int, n)
	for i := range c {
		v := i*7919%n + 1
		if v%3 == 0 {
			v = -v
		}
		c[i] = v
	}
	return c
}

func repeat(x, n int) []int {
	return slices.Repeat([]int{x}, n)
}

// P1.1

func TestCheck(t *testing.T) {
	for _, x := range []struct {
		name string
		n    int
		c    []int
		want api.Errno
	}{
		{"literals of both signs", 3, []int{1, -3}, api.OK},
		{"greatest variable", 3, []int{3}, api.OK},
		{"negative of the greatest variable", 3, []int{-3}, api.OK},
		{"no literals", 3, nil, api.OK},
		{"no literals, no variables", 0, nil, api.OK},
		{"empty slice", 0, []int{}, api.OK},
		{"a literal several times", 2, []int{2, 2, 1, 2}, api.OK},
		{"a literal and its negative", 2, []int{2, -2}, api.OK},
		{"variable too great", 3, []int{4}, api.ErrRange},
		{"negative of a variable too great", 3, []int{-4}, api.ErrRange},
		{"variable too great after valid ones", 3, []int{1, 2, 3, -1, 4}, api.ErrRange},
		{"variable too great before valid ones", 3, []int{-4, 1, 2}, api.ErrRange},
		{"variable too great between valid ones", 3, []int{1, 4, 2}, api.ErrRange},
		{"0", 3, []int{0}, api.ErrRange},
		{"0 after valid ones", 3, []int{1, -2, 0}, api.ErrRange},
		{"0 without variables", 0, []int{0}, api.ErrRange},
		{"a literal without variables", 0, []int{1}, api.ErrRange},
		{"a negative literal without variables", 0, []int{-1}, api.ErrRange},
		{"greatest number", 3, []int{math.MaxInt}, api.ErrRange},
		{"negative of the greatest number", 3, []int{-math.MaxInt}, api.ErrRange},
		{"least number", 3, []int{math.MinInt}, api.ErrRange},
		{"least number, all variables", api.MaxVars, []int{math.MinInt}, api.ErrRange},
		{"least number, no variables", 0, []int{math.MinInt}, api.ErrRange},
	} {
		if e := Check(x.n, x.c...); e != x.want {
			t.Errorf("%s: Check(%d, %d) = %d, want %d", x.name, x.n, x.c, e, x.want)
		}
	}
}

func TestCheckCountOfVariables(t *testing.T) {
	for _, n := range []int{0, 1, 2, api.MaxVars - 1, api.MaxVars} {
		if e := Check(n); e != api.OK {
			t.Errorf("Check(%d) = %d", n, e)
		}
		if n == 0 {
			continue
		}
		if e := Check(n, n, -n, 1, -1); e != api.OK {
			t.Errorf("Check(%d) of its last variable = %d", n, e)
		}
		for _, x := range []int{n + 1, -n - 1} {
			if e := Check(n, x); e != api.ErrRange {
				t.Errorf("Check(%d, %d) = %d", n, x, e)
			}
		}
	}
	for _, n := range []int{-1, -2, -api.MaxVars, api.MaxVars + 1, math.MinInt, -math.MaxInt, math.MaxInt, 1 << 32, -1 << 32} {
		if e := Check(n); e != api.ErrRange {
			t.Errorf("Check(%d) = %d", n, e)
		}
		if e := Check(n, 1); e != api.ErrRange {
			t.Errorf("Check(%d, 1) = %d", n, e)
		}
	}
}

func TestCheckLength(t *testing.T) {
	for _, x := range []struct {
		name string
		c    []int
		want api.Errno
	}{
		{"one less", spread(api.MaxClause - 1), api.OK},
		{"as many as there may be", spread(api.MaxClause), api.OK},
		{"one more", spread(api.MaxClause + 1), api.ErrLong},
		{"twice as many", spread(2 * api.MaxClause), api.ErrLong},
		{"one literal, as often as may be", repeat(-1, api.MaxClause), api.OK},
		{"one literal, once more", repeat(-1, api.MaxClause+1), api.ErrLong},
		{"the last one is 0", append(spread(api.MaxClause-1), 0), api.ErrRange},
		{"the last one is too great", append(spread(api.MaxClause-1), api.MaxVars+1), api.ErrRange},
	} {
		if e := Check(api.MaxVars, x.c...); e != x.want {
			t.Errorf("%s: %d, want %d", x.name, e, x.want)
		}
	}
}

func TestCheckOrderOfErrors(t *testing.T) {
	long := spread(api.MaxClause + 1)
	for _, n := range []int{-1, math.MinInt, api.MaxVars + 1, math.MaxInt} {
		if e := Check(n, long...); e != api.ErrRange {
			t.Errorf("n = %d and too many literals: %d", n, e)
		}
	}
	for _, bad := range []int{0, 2, -2, math.MinInt, math.MaxInt} {
		first := append([]int{bad}, repeat(1, api.MaxClause)...)
		if e := Check(1, first...); e != api.ErrLong {
			t.Errorf("too many literals, the first one being %d: %d", bad, e)
		}
		last := append(repeat(1, api.MaxClause), bad)
		if e := Check(1, last...); e != api.ErrLong {
			t.Errorf("too many literals, the last one being %d: %d", bad, e)
		}
	}
}

func TestCheckAll(t *testing.T) {
	for n := range 4 {
		lists(4, 3, func(c []int) {
			want := api.OK
			for _, x := range c {
				if x == 0 || x > n || -x > n {
					want = api.ErrRange
				}
			}
			if e := Check(n, c...); e != want {
				t.Errorf("Check(%d, %d) = %d, want %d", n, c, e, want)
			}
		})
	}
}

// P1.2

func TestNorm(t *testing.T) {
	for _, x := range []struct {
		name string
		c    []int
		want []int
		is   bool
	}{
		{"in no order, one of them twice", []int{3, -1, 3, 2}, []int{-1, 2, 3}, false},
		{"in order already", []int{1, -2, 3}, []int{1, -2, 3}, false},
		{"backwards", []int{-9, 5, -3, 1}, []int{1, -3, 5, -9}, false},
		{"by variables, not by numbers", []int{-30, -2, 10}, []int{-2, 10, -30}, false},
		{"one literal", []int{-7}, []int{-7}, false},
		{"all the same", []int{-4, -4, -4, -4}, []int{-4}, false},
		{"each several times", []int{2, 1, 2, 1, -3, 2, -3}, []int{1, 2, -3}, false},
		{"none", nil, nil, false},
		{"empty slice", []int{}, nil, false},
		{"a literal, then its negative", []int{1, 2, -1}, nil, true},
		{"a negative, then its literal", []int{-1, 2, 1}, nil, true},
		{"next to each other", []int{5, -5}, nil, true},
		{"several times, and the negative", []int{6, 6, 1, 6, -6, -6}, nil, true},
		{"the greatest variable", []int{1, 2, 3, -3}, nil, true},
		{"every variable", []int{1, 2, -2, -1}, nil, true},
		{"only 0", []int{0}, nil, false},
		{"0 twice is not a literal and its negative", []int{0, 0}, nil, false},
		{"0 among others", []int{0, 2, 0, -1, 0}, []int{-1, 2}, false},
		{"0 and a literal and its negative", []int{4, 0, -4}, nil, true},
		{"least number", []int{math.MinInt}, []int{math.MinInt}, false},
		{"least number twice", []int{math.MinInt, math.MinInt}, []int{math.MinInt}, false},
		{"least number and 0", []int{math.MinInt, 0}, []int{math.MinInt}, false},
		{"least and greatest number", []int{math.MinInt, math.MaxInt}, []int{math.MaxInt, math.MinInt}, false},
		{"least and next number", []int{math.MinInt, -math.MaxInt}, []int{-math.MaxInt, math.MinInt}, false},
		{"greatest number and its negative", []int{math.MaxInt, -math.MaxInt}, nil, true},
		{"the same ones, and the least", []int{-math.MaxInt, math.MinInt, math.MaxInt}, nil, true},
		{"great numbers", []int{math.MinInt, 1, math.MaxInt, -2}, []int{1, -2, math.MaxInt, math.MinInt}, false},
		{"the same in the low bits", []int{-1<<32 - 1, 1}, []int{1, -1<<32 - 1}, false},
	} {
		c, is := Norm(x.c...)
		if !slices.Equal(c, x.want) || is != x.is {
			t.Errorf("%s: Norm(%d) = %d, %t, want %d, %t", x.name, x.c, c, is, x.want, x.is)
		}
	}
}

// wantNorm finds what Norm returns by going through the variables, instead of by sorting.
func wantNorm(c []int, span int) ([]int, bool) {
	var want []int
	for v := 1; v <= span; v++ {
		is, not := slices.Contains(c, v), slices.Contains(c, -v)
		switch {
		case is && not:
			return nil, true
		case is:
			want = append(want, v)
		case not:
			want = append(want, -v)
		}
	}
	return want, false
}

func TestNormAll(t *testing.T) {
	lists(3, 5, func(c []int) {
		want, wantIs := wantNorm(c, 3)
		if got, is := Norm(c...); !slices.Equal(got, want) || is != wantIs {
			t.Errorf("Norm(%d) = %d, %t, want %d, %t", c, got, is, want, wantIs)
		}
	})
}

func TestNormEdges(t *testing.T) {
	all := edges()
	for i, a := range all {
		for j, b := range all {
			var want []int
			for k, x := range all {
				if x != 0 && (k == i || k == j) {
					want = append(want, x)
				}
			}
			wantIs := a != 0 && a != b && a == -b
			if wantIs {
				want = nil
			}
			if got, is := Norm(a, b); !slices.Equal(got, want) || is != wantIs {
				t.Errorf("Norm(%d, %d) = %d, %t, want %d, %t", a, b, got, is, want, wantIs)
			}
		}
	}
}

func TestNormLong(t *testing.T) {
	for _, n := range []int{100, api.MaxClause, api.MaxClause + 1, 5 * api.MaxClause} {
		c := spread(n)
		var want []int
		for v := 1; v <= n; v++ {
			if v%3 == 0 {
				want = append(want, -v)
			} else {
				want = append(want, v)
			}
		}
		if got, is := Norm(append(c, c...)...); !slices.Equal(got, want) || is {
			t.Errorf("Norm of %d literals, each twice: %d of them, %t", n, len(got), is)
		}
		for _, v := range []int{1, n / 2, n} {
			if got, is := Norm(append(slices.Clone(c), -want[v-1])...); len(got) != 0 || !is {
				t.Errorf("Norm of %d literals and the negative of number %d: %d of them, %t", n, v, len(got), is)
			}
		}
		if got, is := Norm(repeat(-n, n)...); !slices.Equal(got, []int{-n}) || is {
			t.Errorf("Norm of one literal %d times: %d, %t", n, got, is)
		}
	}
}

// P1.3

func TestHolds(t *testing.T) {
	m := []bool{false, true}
	for _, x := range []struct {
		name string
		m    []bool
		c    []int
		want bool
	}{
		{"negative of what is false", m, []int{-1}, true},
		{"what is false", m, []int{1}, false},
		{"what is true", m, []int{2}, true},
		{"negative of what is true", m, []int{-2}, false},
		{"the last one holds", m, []int{1, 2}, true},
		{"the first one holds", m, []int{2, 1}, true},
		{"the one between holds", m, []int{1, -1, -2}, true},
		{"all of them hold", m, []int{-1, 2}, true},
		{"none of them holds", m, []int{1, -2}, false},
		{"a literal and its negative", m, []int{1, -1}, true},
		{"a literal several times", m, []int{1, 1, 1}, false},
		{"no value for the variable", m, []int{3, -3}, false},
		{"no value, and one that holds", m, []int{3, -3, 2}, true},
		{"no value, and one that does not hold", m, []int{3, -3, 1}, false},
		{"no literals", m, nil, false},
		{"no literals, empty slice", m, []int{}, false},
		{"no values", nil, []int{1, -1}, false},
		{"no values, empty slice", []bool{}, []int{1, -1}, false},
		{"no values, no literals", nil, nil, false},
		{"0", m, []int{0}, false},
		{"0 with true values", []bool{true, true}, []int{0, 0}, false},
		{"0 with false values", []bool{false, false}, []int{0, 0}, false},
		{"0 without values", nil, []int{0}, false},
		{"0, and one that holds", m, []int{0, 2}, true},
		{"the greatest numbers", m, []int{math.MaxInt, -math.MaxInt}, false},
		{"the least number", m, []int{math.MinInt}, false},
		{"the least number without values", nil, []int{math.MinInt}, false},
		{"the least number, and one that holds", m, []int{math.MinInt, -1}, true},
		{"the same in the low bits", m, []int{1<<32 + 2, -1<<32 - 1}, false},
	} {
		if got := Holds(x.m, x.c...); got != x.want {
			t.Errorf("%s: Holds(%t, %d) = %t", x.name, x.m, x.c, got)
		}
	}
}

func TestHoldsAll(t *testing.T) {
	models(3, func(m []bool) {
		lists(4, 3, func(c []int) {
			want := false
			for i, value := range m {
				if value {
					want = want || slices.Contains(c, i+1)
				} else {
					want = want || slices.Contains(c, -(i+1))
				}
			}
			if got := Holds(m, c...); got != want {
				t.Errorf("Holds(%t, %d) = %t", m, c, got)
			}
		})
	})
}

func TestHoldsAtTheEndOfTheModel(t *testing.T) {
	for _, n := range []int{1, 2, 1000, api.MaxVars, api.MaxVars + 1} {
		for _, value := range []bool{false, true} {
			m := make([]bool, n)
			m[n-1] = value
			if Holds(m, n) != value || Holds(m, -n) == value {
				t.Errorf("the last of %d variables with the value %t", n, value)
			}
			if Holds(m, n+1, -n-1) {
				t.Errorf("a variable after %d others", n)
			}
			if short := m[:n-1]; Holds(short, n, -n) {
				t.Errorf("a variable of which the value was cut off, %d", n)
			}
		}
	}
}

func TestHoldsManyLiterals(t *testing.T) {
	m := []bool{true}
	for _, n := range []int{api.MaxClause, api.MaxClause + 1, 3 * api.MaxClause} {
		c := repeat(-1, n)
		if Holds(m, c...) {
			t.Errorf("%d literals that do not hold", n)
		}
		if c[n-1] = 1; !Holds(m, c...) {
			t.Errorf("%d literals, the last of which holds", n)
		}
	}
}

// P1.4

func TestLess(t *testing.T) {
	for _, x := range []struct {
		a, b int
		want bool
	}{
		{1, -1, true}, {-1, 1, false}, {1, 1, false}, {-1, -1, false},
		{-1, 2, true}, {2, -1, false}, {1, -2, true}, {-2, 1, false},
		{2, 2, false}, {-2, 2, false}, {2, -2, true},
		{-10, -11, true}, {-11, -10, false},
		{0, 1, true}, {0, -1, true}, {1, 0, false}, {-1, 0, false}, {0, 0, false},
		{math.MaxInt, math.MinInt, true}, {math.MinInt, math.MaxInt, false},
		{-math.MaxInt, math.MinInt, true}, {math.MinInt, -math.MaxInt, false},
		{math.MaxInt, -math.MaxInt, true}, {-math.MaxInt, math.MaxInt, false},
		{0, math.MinInt, true}, {math.MinInt, 0, false},
		{1, math.MinInt, true}, {math.MinInt, 1, false}, {-1, math.MinInt, true}, {math.MinInt, -1, false},
		{math.MinInt, math.MinInt, false}, {math.MaxInt, math.MaxInt, false},
	} {
		if got := Less(x.a, x.b); got != x.want {
			t.Errorf("Less(%d, %d) = %t", x.a, x.b, got)
		}
	}
}

func TestLessEdges(t *testing.T) {
	all := edges()
	for i, a := range all {
		for j, b := range all {
			if got := Less(a, b); got != (i < j) {
				t.Errorf("Less(%d, %d) = %t", a, b, got)
			}
		}
	}
}

// P1.5

func TestNormOfNorm(t *testing.T) {
	check := func(c []int) {
		once, is := Norm(c...)
		if is {
			return // nothing is left of it
		}
		if twice, is := Norm(once...); !slices.Equal(twice, once) || is {
			t.Errorf("Norm(%d) = %d, and of this %d, %t", c, once, twice, is)
		}
	}
	lists(3, 4, check)
	for _, a := range edges() {
		for _, b := range edges() {
			check([]int{a, b, a})
		}
	}
	check(spread(api.MaxClause))
}

func TestNormDoesNotDependOnOrder(t *testing.T) {
	for _, c := range [][]int{
		{1, -2, 3, -4, 5}, {1, 2, -1, 3}, {0, 3, 0, -2, 3}, {7, 7, -7},
		{math.MinInt, math.MaxInt, 1, -1<<32 - 1}, {math.MinInt, -math.MaxInt, math.MaxInt, 0},
	} {
		want, wantIs := Norm(c...)
		permute(c, 0, func(p []int) {
			if got, is := Norm(p...); !slices.Equal(got, want) || is != wantIs {
				t.Errorf("Norm(%d) = %d, %t, but Norm(%d) = %d, %t", c, want, wantIs, p, got, is)
			}
		})
	}
}

// permute calls f with each order of the elements of c from the index at on.
func permute(c []int, at int, f func(p []int)) {
	if at == len(c) {
		f(slices.Clone(c))
		return
	}
	for i := at; i < len(c); i++ {
		c[at], c[i] = c[i], c[at]
		permute(c, at+1, f)
		c[at], c[i] = c[i], c[at]
	}
}

func TestNormDoesNotDependOnHowOften(t *testing.T) {
	lists(3, 3, func(c []int) {
		want, wantIs := Norm(c...)
		for i := range c {
			for _, more := range []int{1, 2, 20} {
				p := append(slices.Clone(c), repeat(c[i], more)...)
				if got, is := Norm(p...); !slices.Equal(got, want) || is != wantIs {
					t.Errorf("Norm(%d) = %d, %t, but Norm(%d) = %d, %t", c, want, wantIs, p, got, is)
				}
			}
		}
	})
}

// P1.6

func TestNormHoldsAsTheClause(t *testing.T) {
	lists(3, 4, func(c []int) {
		n, is := Norm(c...)
		models(3, func(m []bool) {
			if len(m) < 3 {
				return // a variable of the clause may have no value
			}
			if want := is || Holds(m, n...); Holds(m, c...) != want {
				t.Errorf("in %t: Holds(%d) = %t, but Norm is %d, %t", m, c, !want, n, is)
			}
			if len(n) == 0 && !is && Holds(m, c...) {
				t.Errorf("%d holds in %t, but Norm has no literals", c, m)
			}
		})
	})
}

func TestNormOfLongClauseHoldsAsTheClause(t *testing.T) {
	c := spread(1000)
	n, is := Norm(c...)
	if is {
		t.Fatal("it does not always hold")
	}
	m := make([]bool, 1000)
	for _, x := range c {
		m[variable(x)-1] = x < 0
	}
	if Holds(m, c...) || Holds(m, n...) {
		t.Error("it holds where none of its literals does")
	}
	for i := range m {
		m[i] = !m[i]
		if !Holds(m, c...) || !Holds(m, n...) {
			t.Errorf("it does not hold where the literal of %d does", i+1)
		}
		m[i] = !m[i]
	}
}

// P1.7

func TestLiteralAndNegative(t *testing.T) {
	models(4, func(m []bool) {
		for v := 1; v <= 6; v++ {
			is, not := Holds(m, v), Holds(m, -v)
			if is && not {
				t.Errorf("%d and its negative hold in %t", v, m)
			}
			if hasValue := v <= len(m); (is || not) != hasValue || Holds(m, v, -v) != hasValue {
				t.Errorf("whether one of %d and its negative holds in %t: %t", v, m, !hasValue)
			}
		}
		for _, v := range []int{1 << 31, 1 << 32, 1<<32 + 1, math.MaxInt} {
			if Holds(m, v) || Holds(m, -v) {
				t.Errorf("%d has no value in %t", v, m)
			}
		}
	})
}

// P1.8

func TestLessIsAStrictOrder(t *testing.T) {
	all := edges()
	for x := -12; x <= 12; x++ {
		all = append(all, x)
	}
	for _, a := range all {
		for _, b := range all {
			if a == b && Less(a, b) {
				t.Errorf("%d comes before itself", a)
			}
			if a != b && Less(a, b) == Less(b, a) {
				t.Errorf("%d and %d come both before the other one, or neither does", a, b)
			}
			for _, c := range all {
				if Less(a, b) && Less(b, c) && !Less(a, c) {
					t.Errorf("%d comes before %d, this before %d, but the first not before the last", a, b, c)
				}
			}
		}
	}
}

// R3 and R6, for all of them

func TestArgumentsStay(t *testing.T) {
	for _, c := range [][]int{{3, -1, 3, 2}, {1, 2, 3}, {2, 1, -2}, {0, 5, 0, 4}, {math.MinInt, 1}} {
		room := append(make([]int, 0, 2*len(c)), c...)
		m := []bool{true, false, true}
		Check(3, room...)
		Norm(room...)
		Norm(room[:len(room)-1]...)
		Holds(m, room...)
		if !slices.Equal(room, c) || !slices.Equal(m, []bool{true, false, true}) {
			t.Errorf("the arguments are now %d and %t", room, m)
		}
		if spare := room[:cap(room)][len(c):]; !slices.Equal(spare, make([]int, len(spare))) {
			t.Errorf("behind the arguments there is now %d", spare)
		}
	}
}

func TestNormSharesNoMemory(t *testing.T) {
	for _, c := range [][]int{{1, 2, 3}, {3, 2, 1}, {2, 2, 1, 0}, {5}} {
		given := slices.Clone(c)
		first, _ := Norm(given...)
		want := slices.Clone(first)
		for i := range given {
			given[i] = 99
		}
		second, _ := Norm(c...)
		for i := range second {
			second[i] = 77
		}
		if !slices.Equal(first, want) {
			t.Errorf("Norm(%d) was %d and is now %d", c, want, first)
		}
		if cap(first) != len(first) {
			t.Errorf("Norm(%d) has room for %d, of which %d are used", c, cap(first), len(first))
		}
		first[0] = 55
		if third, _ := Norm(c...); !slices.Equal(third, want) {
			t.Errorf("Norm(%d) was %d first, later %d", c, want, third)
		}
	}
}

func TestCallsDoNotDependOnEachOther(t *testing.T) {
	for range 3 {
		if c, is := Norm(2, -2); len(c) != 0 || !is {
			t.Error("Norm of a clause that always holds:", c, is)
		}
		if c, is := Norm(2, 1); !slices.Equal(c, []int{1, 2}) || is {
			t.Error("Norm after one that always holds:", c, is)
		}
		if e := Check(1, 2); e != api.ErrRange {
			t.Error("Check of an invalid clause:", e)
		}
		if e := Check(2, 2); e != api.OK {
			t.Error("Check after an invalid clause:", e)
		}
		if !Holds([]bool{true}, 1) || Holds([]bool{false}, 1) {
			t.Error("Holds after another model")
		}
	}
}
