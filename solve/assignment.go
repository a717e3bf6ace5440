package solve

// truth is what is known of a literal.
type truth int8

const (
	isFalse truth = -1
	unknown truth = 0
	isTrue  truth = 1
)

// assignment is the values that variables have so far. What follows without a decision is at the level 0, what follows from the first n decisions at the level n.
type assignment struct {
	value  []truth   // for each literal
	trail  []literal // those that hold, in the order in which they became known
	next   int       // how many of them have been propagated
	levels []level   // those of the decisions
	at     []int32   // for each variable with a value: its level
	reason []ref     // for each variable with a value: the clause from which it follows, or none
	last   []literal // for each variable: its literal that held last
}

// level is what is known since a decision, and before the next one.
type level struct {
	start   int // where it begins in the trail; the literal there is the decision
	met     int // the last conflict whose clause had a literal of this level
	counted int // the last conflict for whose glue it was counted
}

// noValues returns the assignment in which the variables 1 to n have no values.
func noValues(n int) assignment {
	a := assignment{
		value:  make([]truth, 2*n+2),
		at:     make([]int32, n+1),
		reason: make([]ref, n+1),
		last:   make([]literal, n+1),
	}
	for v := range a.last {
		a.last[v] = literalOf(v).not()
	}
	return a
}

// assign makes a literal hold, for a reason (none: it is a decision, or follows from nothing else).
func (a *assignment) assign(l literal, reason ref) {
	v := l.variable()
	a.value[l], a.value[l.not()] = isTrue, isFalse
	a.at[v] = int32(len(a.levels))
	a.reason[v] = reason
	a.trail = append(a.trail, l)
}

// takeBack takes back the levels after n, and returns the literals that are no longer known.
func (a *assignment) takeBack(n int) []literal {
	if n >= len(a.levels) {
		return nil
	}
	start := a.levels[n].start
	gone := a.trail[start:]
	for _, l := range gone {
		a.value[l], a.value[l.not()] = unknown, unknown
		a.last[l.variable()] = l
	}
	a.trail, a.levels, a.next = a.trail[:start], a.levels[:n], start
	return gone
}

// levelOf returns the level of a literal that is known.
func (a *assignment) levelOf(l literal) int {
	return int(a.at[l.variable()])
}

// model returns the value of each variable.
func (a *assignment) model() []bool {
	m := make([]bool, len(a.last)-1)
	for i := range m {
		m[i] = a.value[literalOf(i+1)] == isTrue
	}
	return m
}
