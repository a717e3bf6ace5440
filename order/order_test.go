package order

import (
	"math"
	"math/rand"
	"slices"
	"testing"

	"weephole/api"
)

func fresh(t *testing.T, n int) *Heap {
	t.Helper()
	h, e := New(n)
	if h == nil || e != api.OK {
		t.Fatalf("New(%d): %v, %v", n, h, e)
	}
	return h
}

func bump(t *testing.T, h *Heap, v, by int) {
	t.Helper()
	if e := h.Bump(v, by); e != api.OK {
		t.Fatalf("Bump(%d, %d): %v", v, by, e)
	}
}

func push(t *testing.T, h *Heap, list ...int) {
	t.Helper()
	for _, v := range list {
		if e := h.Push(v); e != api.OK {
			t.Fatalf("Push(%d): %v", v, e)
		}
	}
}

func pop(t *testing.T, h *Heap) int {
	t.Helper()
	v, e := h.Pop()
	if e != api.OK {
		t.Fatal("Pop:", e)
	}
	return v
}

// empty pops until nothing is in the heap.
func empty(t *testing.T, h *Heap) []int {
	t.Helper()
	var list []int
	for h.Len() > 0 {
		list = append(list, pop(t, h))
	}
	if v, e := h.Pop(); v != 0 || e != api.ErrNone {
		t.Errorf("Pop of nothing: %d, %v", v, e)
	}
	return list
}

// to returns the numbers from 1 to n.
func to(n int) []int {
	list := make([]int, n)
	for i := range list {
		list[i] = i + 1
	}
	return list
}

// model is a heap from the definition: the activities, and what is in.
type model struct {
	activity []int
	in       []bool
}

func started(n int) *model {
	m := &model{activity: make([]int, n+1), in: slices.Repeat([]bool{true}, n+1)}
	m.in[0] = false
	return m
}

func (m *model) clone() *model {
	return &model{slices.Clone(m.activity), slices.Clone(m.in)}
}

func (m *model) knows(v int) bool {
	return 1 <= v && v < len(m.in)
}

func (m *model) bump(v, by int) api.Errno {
	if !m.knows(v) || by < 0 || by > 1<<40 || m.activity[v]+by > 1<<60 {
		return api.ErrRange
	}
	m.activity[v] += by
	return api.OK
}

func (m *model) pop() (int, api.Errno) {
	first := 0
	for v, in := range m.in {
		if in && (first == 0 || m.activity[v] > m.activity[first]) {
			first = v
		}
	}
	if first == 0 {
		return 0, api.ErrNone
	}
	m.in[first] = false
	return first, api.OK
}

func (m *model) push(v int) api.Errno {
	if !m.knows(v) {
		return api.ErrRange
	}
	m.in[v] = true
	return api.OK
}

func (m *model) size() int {
	n := 0
	for _, in := range m.in {
		if in {
			n++
		}
	}
	return n
}

// sameNow compares a heap with a model by the calls that change nothing.
func sameNow(t *testing.T, h *Heap, m *model) {
	t.Helper()
	if h.Len() != m.size() {
		t.Fatalf("Len is %d, not %d, with %v", h.Len(), m.size(), m)
	}
	for v := -1; v <= len(m.in); v++ {
		if want := m.knows(v) && m.in[v]; h.Has(v) != want {
			t.Fatalf("Has(%d) is %t, with %v", v, !want, m)
		}
	}
}

// same compares a heap with a model: what is in it, and by popping and pushing copies what comes out of it, with all the variables in it, too.
func same(t *testing.T, h *Heap, m *model) {
	t.Helper()
	sameNow(t, h, m)
	for _, all := range []bool{false, true} {
		c, d := h.Copy(), m.clone()
		for v := 1; all && v < len(m.in); v++ {
			push(t, c, v)
			d.push(v)
		}
		for d.size() > 0 {
			v, e := c.Pop()
			if want, _ := d.pop(); v != want || e != api.OK {
				t.Fatalf("Pop: %d, %v, not %d, with %v, all %t", v, e, want, m, all)
			}
		}
		if v, e := c.Pop(); v != 0 || e != api.ErrNone {
			t.Fatalf("Pop of nothing: %d, %v, with %v, all %t", v, e, m, all)
		}
	}
}

// call is a call of a method that changes the heap.
type call struct {
	name  string
	v, by int
}

// both makes a call to a heap and to a model, and compares the results.
func (c call) both(t *testing.T, h *Heap, m *model) {
	t.Helper()
	var v, want int
	var e, wantE api.Errno
	switch c.name {
	case "bump":
		e, wantE = h.Bump(c.v, c.by), m.bump(c.v, c.by)
	case "push":
		e, wantE = h.Push(c.v), m.push(c.v)
	case "pop":
		v, e = h.Pop()
		want, wantE = m.pop()
	}
	if v != want || e != wantE {
		t.Fatalf("%v: %d, %v, not %d, %v", c, v, e, want, wantE)
	}
}

// random returns a call to a heap with n variables, now and then one that is refused.
func random(r *rand.Rand, n int) call {
	v := 1 + r.Intn(n)
	if r.Intn(20) == 0 {
		v = []int{-1, 0, n + 1}[r.Intn(3)]
	}
	switch r.Intn(4) {
	case 0:
		return call{name: "push", v: v}
	case 1:
		return call{name: "pop"}
	}
	by := r.Intn(4)
	if r.Intn(20) == 0 {
		by = []int{-1, 1 << 40, 1<<40 + 1}[r.Intn(3)]
	}
	return call{"bump", v, by}
}

// used returns a heap with n variables after random calls, and its model.
func used(t *testing.T, r *rand.Rand, n, calls int) (*Heap, *model) {
	t.Helper()
	h, m := fresh(t, n), started(n)
	for range calls {
		random(r, n).both(t, h, m)
	}
	return h, m
}

// P6.1

func TestNew(t *testing.T) {
	for _, n := range []int{0, 1, 2, 3, 100, 4097} {
		h := fresh(t, n)
		if h.Len() != n || h.Has(0) || h.Has(n+1) || h.Has(-1) {
			t.Errorf("New(%d): Len %d", n, h.Len())
		}
		for v := 1; v <= n; v++ {
			if !h.Has(v) {
				t.Errorf("New(%d): Has(%d) is false", n, v)
			}
		}
		if list := empty(t, h); !slices.Equal(list, to(n)) {
			t.Errorf("New(%d): popped are %d", n, list)
		}
	}
}

func TestNewRange(t *testing.T) {
	for _, n := range []int{-1, -2, math.MinInt, api.MaxVars + 1, math.MaxInt} {
		if h, e := New(n); h != nil || e != api.ErrRange {
			t.Errorf("New(%d): %v, %v", n, h, e)
		}
	}
}

func TestNewOfMaxVars(t *testing.T) {
	h := fresh(t, api.MaxVars)
	if h.Len() != api.MaxVars || !h.Has(api.MaxVars) || h.Has(api.MaxVars+1) {
		t.Error("Len:", h.Len())
	}
	bump(t, h, api.MaxVars, 1)
	if e := h.Bump(api.MaxVars+1, 1); e != api.ErrRange {
		t.Error("Bump:", e)
	}
	if e := h.Push(api.MaxVars + 1); e != api.ErrRange {
		t.Error("Push:", e)
	}
	list := empty(t, h)
	if len(list) != api.MaxVars || list[0] != api.MaxVars || !slices.Equal(list[1:], to(api.MaxVars-1)) {
		t.Error("popped are", len(list))
	}
}

// P6.2

func TestBump(t *testing.T) {
	h := fresh(t, 3)
	bump(t, h, 3, 1)
	bump(t, h, 2, 1)
	if list := empty(t, h); !slices.Equal(list, []int{2, 3, 1}) {
		t.Error("popped are", list)
	}
	// What is out of the heap stays out, and its activity grows all the same.
	bump(t, h, 1, 5)
	if h.Has(1) || h.Len() != 0 {
		t.Error("Bump puts in")
	}
	push(t, h, 2, 3, 1)
	if list := empty(t, h); !slices.Equal(list, []int{1, 2, 3}) {
		t.Error("then popped are", list)
	}
}

func TestBumpAddsUp(t *testing.T) {
	h := fresh(t, 3)
	bump(t, h, 1, 4)
	bump(t, h, 3, 2)
	bump(t, h, 3, 0)
	bump(t, h, 2, 0)
	bump(t, h, 3, 3)
	bump(t, h, 2, 4)
	if list := empty(t, h); !slices.Equal(list, []int{3, 1, 2}) {
		t.Error("popped are", list)
	}
}

func TestBumpRange(t *testing.T) {
	for _, c := range []struct{ v, by int }{
		{0, 1}, {-1, 1}, {4, 1}, {math.MinInt, 1}, {math.MaxInt, 1}, {0, 0}, {4, 0},
		{1, -1}, {1, 1<<40 + 1}, {1, 1 << 60}, {1, math.MinInt}, {1, math.MaxInt}, {0, -1}, {4, 1<<40 + 1},
		{3, -1}, {3, 1<<40 + 1}, {3, math.MaxInt}, {3, math.MinInt},
	} {
		h, m := fresh(t, 3), started(3)
		call{"bump", 3, 7}.both(t, h, m)
		call{"pop", 0, 0}.both(t, h, m)
		if e := h.Bump(c.v, c.by); e != api.ErrRange {
			t.Errorf("Bump(%d, %d): %v", c.v, c.by, e)
		}
		same(t, h, m)
	}
	if e := fresh(t, 0).Bump(1, 1); e != api.ErrRange {
		t.Error("Bump without variables:", e)
	}
}

func TestBumpMost(t *testing.T) {
	h := fresh(t, 3)
	bump(t, h, 2, 1<<40-1)
	bump(t, h, 3, 1<<40)
	if list := empty(t, h); !slices.Equal(list, []int{3, 2, 1}) {
		t.Error("popped are", list)
	}
}

// high returns a heap with 3 variables, the third of which has an activity that is less by less than the greatest one, and is in or not.
func high(t *testing.T, in bool, less int) (*Heap, *model) {
	t.Helper()
	h, m := fresh(t, 3), started(3)
	if !in {
		empty(t, h)
		push(t, h, 1, 2)
		m.in[3] = false
	}
	for range 1<<20 - 1 {
		bump(t, h, 3, 1<<40)
	}
	bump(t, h, 3, 1<<40-less)
	m.activity[3] = 1<<60 - less
	return h, m
}

func TestActivityMost(t *testing.T) {
	for _, in := range []bool{true, false} {
		for _, less := range []int{0, 1, 1000, 1 << 40} {
			h, m := high(t, in, less)
			for _, by := range []int{less + 1, 1 << 40, less, 1, 0} {
				call{"bump", 3, by}.both(t, h, m)
				same(t, h, m)
			}
			call{"bump", 2, 1 << 40}.both(t, h, m)
			same(t, h, m)
			if m.activity[3] != 1<<60 {
				t.Error("the test does not reach the greatest activity, but", m.activity[3])
			}
		}
	}
}

func TestActivitiesNearTheMost(t *testing.T) {
	h, _ := high(t, true, 1)
	for range 1<<20 - 1 {
		bump(t, h, 1, 1<<40)
		bump(t, h, 2, 1<<40)
	}
	bump(t, h, 1, 1<<40-2)
	bump(t, h, 2, 1<<40)
	if list := empty(t, h.Copy()); !slices.Equal(list, []int{2, 3, 1}) {
		t.Error("popped are", list)
	}
	bump(t, h, 3, 1)
	bump(t, h, 1, 2)
	if list := empty(t, h); !slices.Equal(list, []int{1, 2, 3}) {
		t.Error("with the same activities popped are", list)
	}
}

// P6.3

func TestPop(t *testing.T) {
	h := fresh(t, 4)
	bump(t, h, 2, 3)
	bump(t, h, 4, 8)
	bump(t, h, 3, 3)
	for i, want := range []int{4, 2, 3, 1} {
		if v, e := h.Pop(); v != want || e != api.OK {
			t.Errorf("Pop: %d, %v, not %d", v, e, want)
		}
		if h.Has(want) || h.Len() != 3-i {
			t.Error("Pop does not take out", want)
		}
	}
	for range 2 {
		if v, e := h.Pop(); v != 0 || e != api.ErrNone {
			t.Error("Pop of nothing:", v, e)
		}
	}
	push(t, h, 1)
	if v := pop(t, h); v != 1 {
		t.Error("Pop after nothing was in the heap:", v)
	}
}

func TestPopWithoutVariables(t *testing.T) {
	if v, e := fresh(t, 0).Pop(); v != 0 || e != api.ErrNone {
		t.Error("Pop:", v, e)
	}
}

// P6.4

func TestPush(t *testing.T) {
	h := fresh(t, 3)
	if v := pop(t, h); v != 1 {
		t.Error("Pop:", v)
	}
	bump(t, h, 1, 5)
	if v := pop(t, h); v != 2 {
		t.Error("Pop:", v)
	}
	push(t, h, 1, 1)
	if h.Len() != 2 || !h.Has(1) || h.Has(2) || !h.Has(3) {
		t.Error("Push: Len is", h.Len())
	}
	if list := empty(t, h); !slices.Equal(list, []int{1, 3}) {
		t.Error("popped are", list)
	}
}

func TestPushOfWhatIsIn(t *testing.T) {
	h, m := fresh(t, 5), started(5)
	for _, c := range []call{{"bump", 4, 2}, {"bump", 2, 1}, {"push", 4, 0}, {"push", 5, 0}, {"push", 1, 0}, {"push", 4, 0}} {
		c.both(t, h, m)
		same(t, h, m)
	}
}

func TestPushRange(t *testing.T) {
	for _, v := range []int{0, -1, 4, math.MinInt, math.MaxInt} {
		h, m := fresh(t, 3), started(3)
		call{name: "pop"}.both(t, h, m)
		if e := h.Push(v); e != api.ErrRange {
			t.Errorf("Push(%d): %v", v, e)
		}
		same(t, h, m)
	}
	if e := fresh(t, 0).Push(1); e != api.ErrRange {
		t.Error("Push without variables:", e)
	}
}

// P6.5

func TestHasAndLen(t *testing.T) {
	h := fresh(t, 3)
	if v := pop(t, h); v != 1 || h.Len() != 2 || h.Has(1) || !h.Has(2) || !h.Has(3) {
		t.Error("after Pop:", v, h.Len())
	}
	for _, v := range []int{0, -1, 4, math.MinInt, math.MaxInt} {
		if h.Has(v) {
			t.Errorf("Has(%d) is true", v)
		}
	}
	if h = fresh(t, 0); h.Len() != 0 || h.Has(0) || h.Has(1) {
		t.Error("without variables: Len is", h.Len())
	}
}

func TestCopy(t *testing.T) {
	r := rand.New(rand.NewSource(65))
	for i := range 400 {
		n := 1 + i%9
		h, m := used(t, r, n, i%30)
		c, d := h.Copy(), m.clone()
		if c == nil || c == h {
			t.Fatal("Copy is no other heap")
		}
		same(t, c, d)
		// Each of the two goes its own way.
		for range 20 {
			one := random(r, n)
			if r.Intn(2) == 0 {
				one.both(t, h, m)
			} else {
				one.both(t, c, d)
			}
			sameNow(t, h, m)
			sameNow(t, c, d)
		}
		same(t, h, m)
		same(t, c, d)
	}
	if c := fresh(t, 0).Copy(); c == nil || c.Len() != 0 {
		t.Error("Copy without variables:", c)
	}
}

func TestCopyKeepsTheOriginal(t *testing.T) {
	h := fresh(t, 3)
	c := h.Copy()
	bump(t, c, 3, 2)
	if list := empty(t, c); !slices.Equal(list, []int{3, 1, 2}) {
		t.Error("of the copy popped are", list)
	}
	if list := empty(t, h.Copy()); !slices.Equal(list, []int{1, 2, 3}) {
		t.Error("of another copy popped are", list)
	}
	if h.Len() != 3 {
		t.Error("Len is", h.Len())
	}
}

func TestNil(t *testing.T) {
	var h *Heap
	for _, v := range []int{1, 0, -1, math.MaxInt} {
		if e := h.Bump(v, v); e != api.ErrNil {
			t.Errorf("Bump(%d, %d): %v", v, v, e)
		}
		if e := h.Push(v); e != api.ErrNil {
			t.Errorf("Push(%d): %v", v, e)
		}
		if h.Has(v) {
			t.Errorf("Has(%d) is true", v)
		}
	}
	if v, e := h.Pop(); v != 0 || e != api.ErrNil {
		t.Error("Pop:", v, e)
	}
	if h.Len() != 0 || h.Copy() != nil {
		t.Error("Len, Copy:", h.Len(), h.Copy())
	}
}

// P6.2 to P6.5, all calls together

func TestShortRuns(t *testing.T) {
	const n = 3
	calls := []call{{name: "pop"}, {"push", 0, 0}, {"bump", 1, 0}}
	for v := 1; v <= n; v++ {
		calls = append(calls, call{"bump", v, 1}, call{"bump", v, 2}, call{"push", v, 0})
	}
	var grow func(h *Heap, m *model, left int)
	grow = func(h *Heap, m *model, left int) {
		same(t, h, m)
		if left == 0 {
			return
		}
		for _, c := range calls {
			next, after := h.Copy(), m.clone()
			c.both(t, next, after)
			grow(next, after, left-1)
		}
	}
	grow(fresh(t, n), started(n), 4)
}

func TestRandomRuns(t *testing.T) {
	r := rand.New(rand.NewSource(63))
	for _, n := range []int{1, 2, 3, 4, 7, 8, 15, 16, 40, 100} {
		for range 30 {
			h, m := fresh(t, n), started(n)
			for range 8 * n {
				random(r, n).both(t, h, m)
				sameNow(t, h, m)
			}
			same(t, h, m)
		}
	}
}

func TestLongRun(t *testing.T) {
	r := rand.New(rand.NewSource(64))
	h, m := fresh(t, 300), started(300)
	for i := range 20000 {
		random(r, 300).both(t, h, m)
		if i%1000 == 0 {
			same(t, h, m)
		}
	}
}

// P6.6

func TestAllThatIsPopped(t *testing.T) {
	r := rand.New(rand.NewSource(66))
	equal, less := 0, 0
	for i := range 500 {
		n := 1 + i%50
		h, m := used(t, r, n, 3*n)
		list := empty(t, h)
		var in []int
		for v, is := range m.in {
			if is {
				in = append(in, v)
			}
		}
		if !slices.Equal(slices.Sorted(slices.Values(list)), in) {
			t.Fatalf("popped are %d, in were %d", list, in)
		}
		for k := 1; k < len(list); k++ {
			a, b := list[k-1], list[k]
			if m.activity[a] < m.activity[b] || m.activity[a] == m.activity[b] && a > b {
				t.Fatalf("%d with %d is popped before %d with %d", a, m.activity[a], b, m.activity[b])
			}
			if m.activity[a] == m.activity[b] {
				equal++
			} else {
				less++
			}
		}
	}
	if equal < 500 || less < 500 {
		t.Error("the heaps say too little:", equal, "activities are equal,", less, "are not")
	}
}

// P6.7

func TestPushOfWhatWasPopped(t *testing.T) {
	r := rand.New(rand.NewSource(67))
	tried := 0
	for i := range 500 {
		n := 1 + i%50
		h, _ := used(t, r, n, 3*n)
		list := empty(t, h.Copy())
		for k, v := range list {
			for range 2 {
				if first := pop(t, h); first != v {
					t.Fatalf("the variable %d of %d: popped is %d", k, list, first)
				}
				push(t, h, v)
				tried++
			}
			if !slices.Equal(empty(t, h.Copy()), list[k:]) {
				t.Fatalf("%d is not in the heap as before", v)
			}
			pop(t, h)
		}
	}
	if tried < 5000 {
		t.Error("the heaps say too little: only", tried, "variables were popped and pushed")
	}
}

// P6.8

func TestOrderOfPushes(t *testing.T) {
	r := rand.New(rand.NewSource(68))
	for i := range 300 {
		n := 1 + i%40
		h, _ := used(t, r, n, 3*n)
		list := empty(t, h.Copy())
		want := h.Copy()
		push(t, want, to(n)...)
		for range 3 {
			c := h.Copy()
			empty(t, c)
			r.Shuffle(len(list), func(a, b int) { list[a], list[b] = list[b], list[a] })
			push(t, c, list...)
			if got := empty(t, c); !slices.Equal(got, empty(t, h.Copy())) {
				t.Fatalf("after pushing %d, popped are %d", list, got)
			}
			for _, k := range r.Perm(n) {
				push(t, c, k+1)
			}
			if got := empty(t, c); !slices.Equal(got, empty(t, want.Copy())) {
				t.Fatalf("after pushing all, popped are %d", got)
			}
		}
	}
}

func TestOrderOfBumps(t *testing.T) {
	r := rand.New(rand.NewSource(69))
	for i := range 300 {
		n := 1 + i%40
		h, m := used(t, r, n, 3*n)
		bumps := make([]call, n)
		for k := range bumps {
			bumps[k] = call{"bump", k + 1, r.Intn(5)}
		}
		once, after := h.Copy(), m.clone()
		for _, c := range bumps {
			c.both(t, once, after)
		}
		same(t, once, after)
		other := h.Copy()
		for _, k := range r.Perm(n) {
			bump(t, other, bumps[k].v, bumps[k].by)
		}
		same(t, other, after)
		halves := h.Copy()
		for _, k := range slices.Concat(r.Perm(n), r.Perm(n)) {
			part := r.Intn(bumps[k].by + 1)
			bump(t, halves, bumps[k].v, part)
			bumps[k].by -= part
		}
		for _, c := range bumps {
			bump(t, halves, c.v, c.by)
		}
		same(t, halves, after)
	}
}

func TestBumpInPartsOfTheMost(t *testing.T) {
	once, twice := fresh(t, 3), fresh(t, 3)
	for _, h := range []*Heap{once, twice} {
		bump(t, h, 2, 1<<40-1)
	}
	bump(t, once, 3, 1<<40)
	bump(t, twice, 3, 1<<39)
	bump(t, twice, 3, 1<<39)
	if a, b := empty(t, once), empty(t, twice); !slices.Equal(a, []int{3, 2, 1}) || !slices.Equal(a, b) {
		t.Error("popped are", a, b)
	}
}

// R1, R5 and R6

func TestErrorsChangeNothing(t *testing.T) {
	r := rand.New(rand.NewSource(61))
	for i := range 100 {
		n := 1 + i%9
		h, m := used(t, r, n, 2*n)
		refused := []api.Errno{h.Bump(0, 1), h.Bump(n+1, 1), h.Bump(n, -1), h.Bump(1, 1<<40+1), h.Push(0), h.Push(n + 1)}
		for k, e := range refused {
			if e != api.ErrRange {
				t.Errorf("the call %d: %v", k, e)
			}
		}
		same(t, h, m)
	}
	h := fresh(t, 2)
	bump(t, h, 2, 1)
	empty(t, h)
	if v, e := h.Pop(); v != 0 || e != api.ErrNone {
		t.Error("Pop of nothing:", v, e)
	}
	push(t, h, 1, 2)
	if list := empty(t, h); !slices.Equal(list, []int{2, 1}) {
		t.Error("popped are", list)
	}
}

func TestHeapsAreIndependent(t *testing.T) {
	r := rand.New(rand.NewSource(62))
	heaps := []*Heap{fresh(t, 5), fresh(t, 5), fresh(t, 9)}
	models := []*model{started(5), started(5), started(9)}
	for range 500 {
		k := r.Intn(3)
		random(r, len(models[k].in)-1).both(t, heaps[k], models[k])
		for i := range heaps {
			sameNow(t, heaps[i], models[i])
		}
	}
	for i := range heaps {
		same(t, heaps[i], models[i])
	}
}

func TestHeapThatNewDidNotMake(t *testing.T) {
	h := new(Heap)
	if v, e := h.Pop(); v != 0 || e != api.ErrNone {
		t.Error("Pop:", v, e)
	}
	if h.Bump(1, 1) != api.ErrRange || h.Push(1) != api.ErrRange || h.Has(1) || h.Len() != 0 || h.Copy().Len() != 0 {
		t.Error("it has variables")
	}
}
