package word

import (
	"weephole/api"
)

// maxArity is how many arguments an operator takes at most.
const maxArity = 3

// operands are the arguments of an operator, words of the width; those that it does not take are 0.
type operands struct {
	width   int
	a, b, c uint64
}

// operator is how an operator calculates. Bits of its result above the width do not count.
type operator struct {
	result func(operands) uint64
}

// table returns the operators by their numbers; OpConst and OpVar do not calculate.
func table() [api.OpIte + 1]operator {
	return [...]operator{
		api.OpNot: {func(x operands) uint64 { return ^x.a }},
		api.OpNeg: {func(x operands) uint64 { return -x.a }},
		api.OpAdd: {operands.add},
		api.OpSub: {operands.sub},
		api.OpMul: {operands.mul},
		api.OpDiv: {operands.div},
		api.OpRem: {operands.rem},
		api.OpAnd: {operands.and},
		api.OpOr:  {operands.or},
		api.OpXor: {operands.xor},
		api.OpShl: {operands.shl},
		api.OpShr: {operands.shr},
		api.OpSar: {operands.sar},
		api.OpEq:  {operands.eq},
		api.OpNe:  {operands.ne},
		api.OpLt:  {operands.lt},
		api.OpLe:  {operands.le},
		api.OpSlt: {operands.slt},
		api.OpSle: {operands.sle},
		api.OpIte: {choice},
	}
}

func (x operands) add() uint64 { return x.a + x.b }
func (x operands) sub() uint64 { return x.a - x.b }
func (x operands) mul() uint64 { return x.a * x.b }

func (x operands) div() uint64 {
	if x.b == 0 {
		return ^uint64(0)
	}
	return x.a / x.b
}

func (x operands) rem() uint64 {
	if x.b == 0 {
		return x.a
	}
	return x.a % x.b
}

func (x operands) and() uint64 { return x.a & x.b }
func (x operands) or() uint64  { return x.a | x.b }
func (x operands) xor() uint64 { return x.a ^ x.b }

// A shift by the width or more needs no case of its own: it leaves only bits above the width, or copies of the highest bit.

func (x operands) shl() uint64 { return x.a << x.b }
func (x operands) shr() uint64 { return x.a >> x.b }
func (x operands) sar() uint64 { return uint64(signed(x.width, x.a) >> x.b) }

func (x operands) eq() uint64  { return truth(x.a == x.b) }
func (x operands) ne() uint64  { return truth(x.a != x.b) }
func (x operands) lt() uint64  { return truth(x.a < x.b) }
func (x operands) le() uint64  { return truth(x.a <= x.b) }
func (x operands) slt() uint64 { return truth(signed(x.width, x.a) < signed(x.width, x.b)) }
func (x operands) sle() uint64 { return truth(signed(x.width, x.a) <= signed(x.width, x.b)) }

// choice returns b if a holds, otherwise c.
func choice(x operands) uint64 {
	if x.a != 0 {
		return x.b
	}
	return x.c
}

// truth returns a truth value as a word.
func truth(is bool) uint64 {
	if is {
		return 1
	}
	return 0
}
