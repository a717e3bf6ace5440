package solve

// literal is a literal as an index: 2v for the variable v, and 2v+1 for its negative.
type literal uint32

// literalOf returns the literal that a formula writes as x.
func literalOf(x int) literal {
	if x < 0 {
		return literal(-2*x + 1)
	}
	return literal(2 * x)
}

func literalsOf(list []int) []literal {
	literals := make([]literal, len(list))
	for i, x := range list {
		literals[i] = literalOf(x)
	}
	return literals
}

// number returns what a formula writes for the literal.
func (l literal) number() int {
	if l&1 == 1 {
		return -l.variable()
	}
	return l.variable()
}

func numbersOf(literals []literal) []int {
	list := make([]int, len(literals))
	for i, l := range literals {
		list[i] = l.number()
	}
	return list
}

func (l literal) variable() int {
	return int(l >> 1)
}

func (l literal) not() literal {
	return l ^ 1
}
