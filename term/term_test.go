package term

import (
	"math"
	"math/rand"
	"slices"
	"testing"

	"weephole/api"
	"weephole/op"
	"weephole/word"
)

// greatest is the greatest number of a variable.
const greatest = 4194303

// fresh returns a new graph.
func fresh(t *testing.T, width, most int) *Graph {
	t.Helper()
	g, e := New(width, most)
	if g == nil || e != api.OK {
		t.Fatalf("New(%d, %d): %v, error %d", width, most, g, e)
	}
	return g
}

// model is a graph from the definition: a list of nodes, which is searched from the beginning.
type model struct {
	width, room int
	nodes       []api.Node
}

func (m *model) clone() *model {
	return &model{m.width, m.room, slices.Clone(m.nodes)}
}

func sameNode(a, b api.Node) bool {
	return a.Op == b.Op && a.Num == b.Num && slices.Equal(a.A, b.A)
}

func (m *model) ask(x api.Node) (int, api.Errno) {
	for t, y := range m.nodes {
		if sameNode(x, y) {
			return t, api.OK
		}
	}
	if len(m.nodes) >= m.room {
		return 0, api.ErrBudget
	}
	m.nodes = append(m.nodes, x)
	return len(m.nodes) - 1, api.OK
}

// call is a call that asks a graph for a node.
type call struct {
	op   uint8
	num  uint64 // OpConst: the number; OpVar: the number of the variable, as an int
	args []int
}

// try makes a call to a graph.
func (c call) try(g *Graph) (int, api.Errno) {
	switch c.op {
	case api.OpConst:
		return g.Const(c.num)
	case api.OpVar:
		return g.Var(int(c.num))
	}
	return g.App(c.op, c.args...)
}

// want says what a call to a model returns.
func (c call) want(m *model) (int, api.Errno) {
	switch c.op {
	case api.OpConst:
		v, _ := word.Trim(m.width, c.num)
		return m.ask(api.Node{Op: api.OpConst, Num: v})
	case api.OpVar:
		if n := int(c.num); n < 0 || n > greatest {
			return 0, api.ErrRange
		}
		return m.ask(api.Node{Op: api.OpVar, Num: c.num})
	}
	if arity, _ := op.Arity(c.op); arity == 0 || len(c.args) != arity {
		return 0, api.ErrArg
	}
	for _, a := range c.args {
		if a < 0 || a >= len(m.nodes) {
			return 0, api.ErrRange
		}
	}
	return m.ask(api.Node{Op: c.op, A: slices.Clone(c.args)})
}

// both makes a call to a graph and to a model, and compares the results.
func (c call) both(t *testing.T, g *Graph, m *model) {
	t.Helper()
	x, e := c.try(g)
	if want, wantE := c.want(m); x != want || e != wantE {
		t.Fatalf("%v: %d, error %d; want %d, error %d, with %v", c, x, e, want, wantE, m)
	}
}

// same compares a graph with a model.
func same(t *testing.T, g *Graph, m *model) {
	t.Helper()
	if g.Width() != m.width || g.Len() != len(m.nodes) {
		t.Fatalf("Width and Len are %d and %d, with %v", g.Width(), g.Len(), m)
	}
	for i, want := range m.nodes {
		if x, e := g.Node(i); !sameNode(x, want) || e != api.OK {
			t.Fatalf("Node(%d): %v, error %d; want %v", i, x, e, want)
		}
	}
	for _, i := range []int{-1, len(m.nodes)} {
		if x, e := g.Node(i); !sameNode(x, api.Node{}) || e != api.ErrRange {
			t.Fatalf("Node(%d): %v, error %d; want ErrRange, with %v", i, x, e, m)
		}
	}
}

// random returns a call to a graph with n nodes, now and then one that is refused; there are so few of them that many come again.
func random(r *rand.Rand, n int) call {
	switch r.Intn(8) {
	case 0:
		return call{op: api.OpConst, num: uint64(r.Intn(12))}
	case 1:
		return call{op: api.OpVar, num: uint64(r.Intn(6) - 1)}
	}
	c := call{op: api.OpNot + uint8(r.Intn(int(api.OpIte)))}
	arity, _ := op.Arity(c.op)
	if r.Intn(20) == 0 {
		arity = r.Intn(5)
	}
	for range arity {
		c.args = append(c.args, r.Intn(min(n, 4)+1))
	}
	if arity > 0 && r.Intn(20) == 0 {
		c.args[r.Intn(arity)] = []int{-1, n, n + 1}[r.Intn(3)]
	}
	return c
}

// used returns a graph after random calls, and its model.
func used(t *testing.T, r *rand.Rand, calls int) (*Graph, *model) {
	t.Helper()
	width, room := 1+r.Intn(4), 1+r.Intn(60)
	g, m := fresh(t, width, room), &model{width: width, room: room}
	for range calls {
		random(r, len(m.nodes)).both(t, g, m)
	}
	return g, m
}

// must fails the test unless a call returned a term.
func must(t *testing.T) func(x int, e api.Errno) int {
	return func(x int, e api.Errno) int {
		t.Helper()
		if e != api.OK {
			t.Fatalf("error %d", e)
		}
		return x
	}
}

// leaves returns a graph with the terms 0 to n-1 of variables.
func leaves(t *testing.T, n int) *Graph {
	t.Helper()
	g := fresh(t, 8, 0)
	for i := range n {
		if x := must(t)(g.Var(i)); x != i {
			t.Fatalf("Var(%d): %d", i, x)
		}
	}
	return g
}

// lists returns all lists of a length with elements from 0 to below-1.
func lists(length, below int) [][]int {
	all := [][]int{nil}
	for range length {
		var longer [][]int
		for _, l := range all {
			for i := range below {
				longer = append(longer, append(slices.Clone(l), i))
			}
		}
		all = longer
	}
	return all
}

// All promises, by random calls

func TestAgainstModel(t *testing.T) {
	r := rand.New(rand.NewSource(1))
	for range 300 {
		g, m := used(t, r, r.Intn(300))
		same(t, g, m)
	}
}

func TestAgainstModelAfterEachCall(t *testing.T) {
	r := rand.New(rand.NewSource(2))
	for range 40 {
		g, m := used(t, r, 0)
		for range 120 {
			random(r, len(m.nodes)).both(t, g, m)
			same(t, g, m)
		}
	}
}

func TestExamples(t *testing.T) {
	g := fresh(t, 2, 4)
	for _, x := range []struct {
		c    call
		want int
		e    api.Errno
	}{
		{call{op: api.OpConst, num: 7}, 0, api.OK},
		{call{op: api.OpConst, num: 3}, 0, api.OK},
		{call{op: api.OpVar, num: 0}, 1, api.OK},
		{call{op: api.OpAdd, args: []int{1, 0}}, 2, api.OK},
		{call{op: api.OpAdd, args: []int{0, 1}}, 3, api.OK},
		{call{op: api.OpVar, num: 1}, 0, api.ErrBudget},
		{call{op: api.OpVar, num: 0}, 1, api.OK},
		{call{op: api.OpAdd, args: []int{1}}, 0, api.ErrArg},
		{call{op: api.OpNot, args: []int{4}}, 0, api.ErrRange},
		{call{op: api.OpIte, args: []int{0, 0, 9}}, 0, api.ErrRange},
	} {
		if got, e := x.c.try(g); got != x.want || e != x.e {
			t.Errorf("%v: %d, error %d; want %d, error %d", x.c, got, e, x.want, x.e)
		}
	}
	if x, e := g.App(api.OpVar, 1); x != 0 || e != api.ErrArg {
		t.Errorf("App(OpVar, 1): %d, error %d", x, e)
	}
	if x, e := g.Node(2); !sameNode(x, api.Node{Op: api.OpAdd, A: []int{1, 0}}) || e != api.OK {
		t.Errorf("Node(2): %v, error %d", x, e)
	}
}

// P10.1

func TestNew(t *testing.T) {
	for width := 1; width <= 64; width++ {
		for _, most := range []int{0, 1, 2, 100, 1<<20 - 1, 1 << 20} {
			g := fresh(t, width, most)
			if g.Width() != width || g.Len() != 0 {
				t.Errorf("New(%d, %d): Width %d, Len %d", width, most, g.Width(), g.Len())
			}
			if x, e := g.Node(0); !sameNode(x, api.Node{}) || e != api.ErrRange {
				t.Errorf("New(%d, %d): Node(0) is %v, error %d", width, most, x, e)
			}
		}
	}
}

func TestNewRange(t *testing.T) {
	widths := []int{math.MinInt, math.MinInt32, -1, 0, 65, 66, 128, 1 << 32, 1<<32 + 1, math.MaxInt}
	mosts := []int{math.MinInt, math.MinInt32, -1, 1<<20 + 1, 1 << 32, 1<<32 + 1, math.MaxInt}
	refused := func(width, most int) {
		if g, e := New(width, most); g != nil || e != api.ErrRange {
			t.Errorf("New(%d, %d): %v, error %d; want ErrRange", width, most, g, e)
		}
	}
	for _, width := range widths {
		refused(width, 0)
		refused(width, 1)
		refused(width, 1<<20)
	}
	for _, most := range mosts {
		refused(1, most)
		refused(64, most)
	}
	for _, width := range widths {
		for _, most := range mosts {
			refused(width, most)
		}
	}
}

func TestGraphsOfNewAreIndependent(t *testing.T) {
	g, h := fresh(t, 8, 2), fresh(t, 8, 2)
	must(t)(g.Const(1))
	must(t)(g.Const(2))
	if h.Len() != 0 {
		t.Error("Len of the other one:", h.Len())
	}
	if x := must(t)(h.Const(2)); x != 0 {
		t.Error("Const(2) in the other one:", x)
	}
}

func TestRoom(t *testing.T) {
	for most := 1; most <= 70; most++ {
		g := fresh(t, 8, most)
		for i := range most {
			if x := must(t)(g.Const(uint64(i))); x != i {
				t.Fatalf("Const(%d) with room for %d: %d", i, most, x)
			}
		}
		if x, e := g.Const(uint64(most)); x != 0 || e != api.ErrBudget {
			t.Errorf("Const(%d) with room for %d: %d, error %d; want ErrBudget", most, most, x, e)
		}
		if g.Len() != most {
			t.Errorf("Len with room for %d: %d", most, g.Len())
		}
	}
}

// Room 0 and room MaxNodes are both MaxNodes, and what a full graph has can still be asked for (P10.9).
func TestRoomForMaxNodes(t *testing.T) {
	for _, most := range []int{0, 1 << 20} {
		g := fresh(t, 64, most)
		for i := range 1 << 20 {
			if x, e := g.Const(uint64(i) << 40); x != i || e != api.OK {
				t.Fatalf("Const(%d): %d, error %d", uint64(i)<<40, x, e)
			}
		}
		if x, e := g.Const(1); x != 0 || e != api.ErrBudget {
			t.Errorf("Const: %d, error %d; want ErrBudget", x, e)
		}
		if x, e := g.Var(0); x != 0 || e != api.ErrBudget {
			t.Errorf("Var: %d, error %d; want ErrBudget", x, e)
		}
		if x, e := g.App(api.OpIte, 1<<20-1, 0, 1<<20-1); x != 0 || e != api.ErrBudget {
			t.Errorf("App: %d, error %d; want ErrBudget", x, e)
		}
		if x, e := g.App(api.OpNot, 1<<20); x != 0 || e != api.ErrRange {
			t.Errorf("App of what is not there: %d, error %d; want ErrRange", x, e)
		}
		if x, e := g.Const((1<<20 - 1) << 40); x != 1<<20-1 || e != api.OK {
			t.Errorf("Const of what is there: %d, error %d", x, e)
		}
		if g.Len() != 1<<20 {
			t.Error("Len:", g.Len())
		}
	}
}

func TestNil(t *testing.T) {
	var g *Graph
	if g.Width() != 0 || g.Len() != 0 || g.Copy() != nil {
		t.Error("Width, Len or Copy of nil:", g.Width(), g.Len(), g.Copy())
	}
	for _, c := range []call{
		{op: api.OpConst}, {op: api.OpConst, num: math.MaxUint64},
		{op: api.OpVar}, {op: api.OpVar, num: math.MaxUint64}, {op: api.OpVar, num: greatest + 1},
		{op: api.OpNot, args: []int{0}}, {op: api.OpNot}, {op: 22}, {op: api.OpAdd, args: []int{-1, 9}},
	} {
		if x, e := c.try(g); x != 0 || e != api.ErrNil {
			t.Errorf("%v with nil: %d, error %d; want ErrNil", c, x, e)
		}
	}
	for _, i := range []int{math.MinInt, -1, 0, 1, math.MaxInt} {
		if x, e := g.Node(i); !sameNode(x, api.Node{}) || e != api.ErrNil {
			t.Errorf("Node(%d) of nil: %v, error %d; want ErrNil", i, x, e)
		}
	}
}

// A graph that New did not make has no room.
func TestGraphNotFromNew(t *testing.T) {
	g := new(Graph)
	for _, h := range []*Graph{g, g.Copy()} {
		if x, e := h.Const(1); x != 0 || e != api.ErrBudget {
			t.Errorf("Const: %d, error %d", x, e)
		}
		if x, e := h.Var(1); x != 0 || e != api.ErrBudget {
			t.Errorf("Var: %d, error %d", x, e)
		}
		if x, e := h.App(api.OpNot, 0); x != 0 || e != api.ErrRange {
			t.Errorf("App: %d, error %d", x, e)
		}
		if h.Len() != 0 || h.Width() != 0 {
			t.Error("Len and Width:", h.Len(), h.Width())
		}
	}
}

// P10.2

func TestConst(t *testing.T) {
	for width := 1; width <= 64; width++ {
		ones := uint64(math.MaxUint64) >> (64 - width)
		g := fresh(t, width, 0)
		for _, v := range []uint64{0, 1, 2, 3, ones - 1, ones, ones + 1, ones + 2, 1 << 62, 1 << 63, 0xa5a5a5a5a5a5a5a5, math.MaxUint64 - 1, math.MaxUint64} {
			x := must(t)(g.Const(v))
			if n, e := g.Node(x); !sameNode(n, api.Node{Op: api.OpConst, Num: v & ones}) || e != api.OK {
				t.Errorf("width %d: Const(%d) has the node %v, error %d", width, v, n, e)
			}
			if y := must(t)(g.Const(v & ones)); y != x {
				t.Errorf("width %d: Const(%d) is %d, Const(%d) is %d", width, v, x, v&ones, y)
			}
		}
	}
}

func TestVar(t *testing.T) {
	for _, width := range []int{1, 2, 31, 64} {
		g := fresh(t, width, 0)
		for i, n := range []int{greatest, 0, 1, 2, 5, 1 << 20, 1 << 21, greatest - 1} {
			if x := must(t)(g.Var(n)); x != i {
				t.Errorf("width %d: Var(%d) is %d, not %d", width, n, x, i)
			}
			if x, e := g.Node(i); !sameNode(x, api.Node{Op: api.OpVar, Num: uint64(n)}) || e != api.OK {
				t.Errorf("width %d: Var(%d) has the node %v, error %d", width, n, x, e)
			}
		}
	}
}

func TestVarRange(t *testing.T) {
	full := fresh(t, 2, 1)
	must(t)(full.Const(0))
	for _, n := range []int{math.MinInt, math.MinInt32, -greatest, -1, greatest + 1, greatest + 2, 1 << 32, 1<<32 + 1, math.MaxInt} {
		for _, g := range []*Graph{fresh(t, 64, 0), full} {
			before := g.Len()
			if x, e := g.Var(n); x != 0 || e != api.ErrRange {
				t.Errorf("Var(%d): %d, error %d; want ErrRange", n, x, e)
			}
			if g.Len() != before {
				t.Errorf("Var(%d) adds a node", n)
			}
		}
	}
}

// P10.3

func TestApp(t *testing.T) {
	for x := api.OpNot; x <= api.OpIte; x++ {
		arity, _ := op.Arity(x)
		for _, args := range lists(arity, 3) {
			g := leaves(t, 3)
			if y := must(t)(g.App(x, args...)); y != 3 {
				t.Errorf("App(%d, %d): %d", x, args, y)
			}
			if n, e := g.Node(3); !sameNode(n, api.Node{Op: x, A: args}) || e != api.OK {
				t.Errorf("App(%d, %d) has the node %v, error %d", x, args, n, e)
			}
		}
	}
}

// Terms of numbers stay what they are, and so do terms that could be simpler.
func TestAppSimplifiesNothing(t *testing.T) {
	g := fresh(t, 2, 0)
	must(t)(g.Const(0))
	must(t)(g.Const(3))
	must(t)(g.Var(0))
	for i, c := range []call{
		{op: api.OpAdd, args: []int{0, 0}}, {op: api.OpNot, args: []int{0}}, {op: api.OpNot, args: []int{4}}, {op: api.OpAdd, args: []int{2, 0}},
		{op: api.OpMul, args: []int{2, 0}}, {op: api.OpMul, args: []int{0, 2}}, {op: api.OpEq, args: []int{2, 2}}, {op: api.OpIte, args: []int{1, 2, 2}},
	} {
		if x, e := c.try(g); x != 3+i || e != api.OK {
			t.Errorf("%v: %d, error %d; want %d", c, x, e, 3+i)
		}
	}
}

// refused fails the test unless a call to a graph and to a full copy of it returns an error, and changes neither.
func refused(t *testing.T, g *Graph, want api.Errno, x uint8, args ...int) {
	t.Helper()
	full := g.Copy()
	full.room = full.Len()
	for _, h := range []*Graph{g, full} {
		before := h.Len()
		if y, e := h.App(x, args...); y != 0 || e != want {
			t.Errorf("App(%d, %d): %d, error %d; want error %d", x, args, y, e, want)
		}
		if h.Len() != before {
			t.Errorf("App(%d, %d) adds a node", x, args)
		}
	}
}

func TestAppArg(t *testing.T) {
	g := leaves(t, 4)
	for x := range 256 {
		arity, e := op.Arity(uint8(x))
		for n := range 7 {
			if e == api.OK && arity > 0 && n == arity {
				continue
			}
			refused(t, g, api.ErrArg, uint8(x), slices.Repeat([]int{3}, n)...)
			// The number of arguments counts before the arguments.
			refused(t, g, api.ErrArg, uint8(x), slices.Repeat([]int{4}, n)...)
			refused(t, g, api.ErrArg, uint8(x), slices.Repeat([]int{-1}, n)...)
		}
	}
	refused(t, g, api.ErrArg, api.OpAdd, slices.Repeat([]int{0}, 100000)...)
}

func TestAppRange(t *testing.T) {
	empty := fresh(t, 8, 0)
	g := leaves(t, 4)
	for x := api.OpNot; x <= api.OpIte; x++ {
		arity, _ := op.Arity(x)
		refused(t, empty, api.ErrRange, x, make([]int, arity)...)
		for at := range arity {
			for _, bad := range []int{math.MinInt, -1, 4, 5, 1 << 20, 1 << 32, math.MaxInt} {
				args := make([]int, arity)
				args[at] = bad
				refused(t, g, api.ErrRange, x, args...)
			}
		}
	}
}

func TestAppBudget(t *testing.T) {
	for x := api.OpNot; x <= api.OpIte; x++ {
		arity, _ := op.Arity(x)
		g := fresh(t, 8, 2)
		must(t)(g.Var(7))
		args := make([]int, arity)
		if y := must(t)(g.App(x, args...)); y != 1 {
			t.Errorf("App(%d, %d): %d", x, args, y)
		}
		if y, e := g.App(x, slices.Repeat([]int{1}, arity)...); y != 0 || e != api.ErrBudget {
			t.Errorf("App(%d) in a full graph: %d, error %d; want ErrBudget", x, y, e)
		}
		if y, e := g.App(x, args...); y != 1 || e != api.OK {
			t.Errorf("App(%d, %d) in a full graph that has it: %d, error %d", x, args, y, e)
		}
	}
}

func TestAppKeepsNoArguments(t *testing.T) {
	g := leaves(t, 3)
	args := []int{0, 1, 2}
	x := must(t)(g.App(api.OpIte, args...))
	if !slices.Equal(args, []int{0, 1, 2}) {
		t.Error("App changes its arguments:", args)
	}
	args[0], args[1], args[2] = 2, 2, 2
	if n, _ := g.Node(x); !sameNode(n, api.Node{Op: api.OpIte, A: []int{0, 1, 2}}) {
		t.Error("App keeps its arguments:", n)
	}
	if y := must(t)(g.App(api.OpIte, 0, 1, 2)); y != x {
		t.Error("App keeps its arguments:", y)
	}
}

// P10.4

func TestNodeRange(t *testing.T) {
	for n := range 4 {
		g := leaves(t, n)
		for _, i := range []int{math.MinInt, -1, n, n + 1, 1 << 20, 1 << 32, math.MaxInt} {
			if x, e := g.Node(i); !sameNode(x, api.Node{}) || e != api.ErrRange {
				t.Errorf("Node(%d) of %d: %v, error %d; want ErrRange", i, n, x, e)
			}
		}
	}
}

func TestNodeSharesNothing(t *testing.T) {
	g := leaves(t, 3)
	must(t)(g.App(api.OpIte, 0, 1, 2))
	must(t)(g.App(api.OpAdd, 2, 1))
	a, _ := g.Node(3)
	b, _ := g.Node(3)
	a.A[0], a.A[1], a.A[2] = 9, 9, 9
	_ = append(a.A, 9)
	want := api.Node{Op: api.OpIte, A: []int{0, 1, 2}}
	if !sameNode(b, want) {
		t.Error("two results share memory:", b)
	}
	if c, _ := g.Node(3); !sameNode(c, want) {
		t.Error("a result shares memory with the graph:", c)
	}
	if c, _ := g.Node(4); !sameNode(c, api.Node{Op: api.OpAdd, A: []int{2, 1}}) {
		t.Error("a result shares memory with the graph:", c)
	}
	if x := must(t)(g.App(api.OpIte, 0, 1, 2)); x != 3 {
		t.Error("App of the same:", x)
	}
}

// P10.5, P10.10

func TestCopy(t *testing.T) {
	r := rand.New(rand.NewSource(3))
	for range 200 {
		g, m := used(t, r, r.Intn(150))
		h, n := g.Copy(), m.clone()
		same(t, h, n)
		for range 100 {
			random(r, len(m.nodes)).both(t, g, m)
			random(r, len(n.nodes)).both(t, h, n)
		}
		same(t, g, m)
		same(t, h, n)
	}
}

// Of a graph and its copy only one is used, so that nothing of what it does can be hidden by the other one doing the same.
func TestCopyStaysBehind(t *testing.T) {
	r := rand.New(rand.NewSource(4))
	for i := range 100 {
		g, m := used(t, r, r.Intn(100))
		h, n := g.Copy(), m.clone()
		if i%2 == 1 {
			g, h, m, n = h, g, n, m
		}
		for range 100 {
			random(r, len(m.nodes)).both(t, g, m)
		}
		same(t, h, n)
		for range 100 {
			random(r, len(n.nodes)).both(t, h, n)
		}
		same(t, h, n)
		same(t, g, m)
	}
}

func TestCopyKeepsRoom(t *testing.T) {
	g := fresh(t, 3, 3)
	must(t)(g.Const(5))
	for _, h := range []*Graph{g.Copy(), g, g.Copy().Copy()} {
		must(t)(h.Const(6))
		must(t)(h.Const(7))
		if x, e := h.Const(0); x != 0 || e != api.ErrBudget || h.Len() != 3 {
			t.Errorf("Const in a full copy: %d, error %d; Len %d", x, e, h.Len())
		}
		if x, e := h.Const(5); x != 0 || e != api.OK {
			t.Errorf("Const in a full copy that has it: %d, error %d", x, e)
		}
	}
}

// P10.6

func TestArgumentsAreLess(t *testing.T) {
	r := rand.New(rand.NewSource(5))
	for range 200 {
		g, _ := used(t, r, 200)
		for x := range g.Len() {
			n, e := g.Node(x)
			if e != api.OK {
				t.Fatalf("Node(%d): error %d", x, e)
			}
			for _, a := range n.A {
				if a < 0 || a >= x {
					t.Errorf("the term %d has the argument %d", x, a)
				}
			}
		}
	}
}

// P10.7

// all returns calls for all nodes with some numbers and variables and, in a graph with n terms, all operators with all arguments.
func all(n int) []call {
	var list []call
	for v := range uint64(5) {
		list = append(list, call{op: api.OpConst, num: v}, call{op: api.OpVar, num: v})
	}
	for x := api.OpNot; x <= api.OpIte; x++ {
		arity, _ := op.Arity(x)
		for _, args := range lists(arity, n) {
			list = append(list, call{op: x, args: args})
		}
	}
	return list
}

func TestDifferentNodesHaveDifferentTerms(t *testing.T) {
	r := rand.New(rand.NewSource(6))
	g := fresh(t, 8, 0)
	for v := range uint64(5) {
		must(t)(g.Const(v))
	}
	terms := map[int]call{}
	list := all(5)
	for _, c := range list {
		before := g.Len()
		x := must(t)(c.try(g))
		if y, ok := terms[x]; ok {
			t.Fatalf("%v and %v are both %d", c, y, x)
		}
		terms[x] = c
		if grew := g.Len() - before; grew != 0 && grew != 1 || (grew == 1) != (x == before) {
			t.Fatalf("%v: %d, and Len grows from %d by %d", c, x, before, grew)
		}
	}
	r.Shuffle(len(list), func(i, j int) { list[i], list[j] = list[j], list[i] })
	before := g.Len()
	if before != len(list) {
		t.Fatalf("Len is %d after asking for %d nodes", before, len(list))
	}
	for _, c := range list {
		x := must(t)(c.try(g))
		if y := terms[x]; y.op != c.op || y.num != c.num || !slices.Equal(y.args, c.args) || g.Len() != before {
			t.Fatalf("%v is %d the second time, which is %v; Len is %d", c, x, y, g.Len())
		}
	}
}

func TestErrorsAddNothing(t *testing.T) {
	r := rand.New(rand.NewSource(7))
	for range 100 {
		g, m := used(t, r, 60)
		for range 200 {
			c, before := random(r, g.Len()), g.Len()
			x, e := c.try(g)
			if e != api.OK && (x != 0 || g.Len() != before) {
				t.Fatalf("%v: %d, error %d, and Len from %d to %d", c, x, e, before, g.Len())
			}
			if e == api.OK && (g.Len() == before+1) != (x == before) {
				t.Fatalf("%v: %d, and Len from %d to %d", c, x, before, g.Len())
			}
		}
		for i, want := range m.nodes {
			if n, e := g.Node(i); !sameNode(n, want) || e != api.OK {
				t.Fatalf("Node(%d): %v, error %d; want %v", i, n, e, want)
			}
		}
	}
}

// P10.8

func TestTermsStay(t *testing.T) {
	const n = 20000
	r := rand.New(rand.NewSource(8))
	g := leaves(t, 2)
	nodes := []api.Node{{Op: api.OpVar}, {Op: api.OpVar, Num: 1}}
	for len(nodes) < n {
		args := []int{r.Intn(len(nodes)), r.Intn(len(nodes))}
		if x := must(t)(g.App(api.OpMul, args...)); x == len(nodes) {
			nodes = append(nodes, api.Node{Op: api.OpMul, A: args})
		} else if !slices.Equal(nodes[x].A, args) {
			t.Fatalf("OpMul of %d: %d, which is of %d", args, x, nodes[x].A)
		}
	}
	for i, want := range nodes {
		if x, e := g.Node(i); !sameNode(x, want) || e != api.OK {
			t.Fatalf("Node(%d): %v, error %d; want %v", i, x, e, want)
		}
	}
}

// P10.9

func TestFullGraph(t *testing.T) {
	r := rand.New(rand.NewSource(9))
	for range 50 {
		g, m := used(t, r, 30)
		for v := uint64(0); g.Len() < m.room; v++ {
			call{op: api.OpVar, num: v}.both(t, g, m)
		}
		for x, n := range m.nodes {
			c := call{op: n.Op, num: n.Num, args: n.A}
			if y, e := c.try(g); y != x || e != api.OK {
				t.Fatalf("%v in a full graph that has it: %d, error %d; want %d", c, y, e, x)
			}
		}
		if x, e := g.Var(greatest); x != 0 || e != api.ErrBudget {
			t.Errorf("Var in a full graph: %d, error %d; want ErrBudget", x, e)
		}
		same(t, g, m)
	}
}
