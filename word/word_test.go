package word

import (
	"math"
	"math/big"
	"slices"
	"testing"

	"weephole/api"
	"weephole/op"
)

// smallWidth is the greatest width of which the tests go through all pairs of words.
const smallWidth = 5

// badWidths returns numbers that are no widths.
func badWidths() []int {
	return []int{math.MinInt, math.MinInt32, -64, -1, 0, 65, 66, 127, 128, 1 << 32, 1<<32 + 1, math.MaxInt}
}

// power returns 2^n.
func power(n int) *big.Int {
	return new(big.Int).Lsh(big.NewInt(1), uint(n))
}

// whole returns a number of any size.
func whole(v uint64) *big.Int {
	return new(big.Int).SetUint64(v)
}

// modulo returns a number, which may be negative, modulo 2^width.
func modulo(width int, v *big.Int) uint64 {
	return new(big.Int).Mod(v, power(width)).Uint64()
}

// asSigned returns a word as a signed number: itself, or less by 2^width.
func asSigned(width int, v uint64) *big.Int {
	if v >= 1<<(width-1) {
		return new(big.Int).Sub(whole(v), power(width))
	}
	return whole(v)
}

// ones returns the greatest word of a width.
func ones(width int) uint64 {
	return math.MaxUint64 >> (64 - width)
}

// top returns the word of which only the highest bit is set.
func top(width int) uint64 {
	return 1 << (width - 1)
}

// words returns all words of a small width; of others those at the edges and some in between.
func words(width int) []uint64 {
	var list []uint64
	if width <= smallWidth {
		for v := range uint64(1) << width {
			list = append(list, v)
		}
		return list
	}
	w, h, m := uint64(width), top(width), ones(width)
	list = append(list, 0, 1, 2, 3, w-1, w, w+1, h-1, h, h+1, m-1, m)
	for _, v := range []uint64{10, 0x9e3779b97f4a7c15, 0x5555555555555555, 0xf0e1d2c3b4a59687, 0x00000001ffffffff, 0x8000000180000001} {
		list = append(list, v&m)
	}
	slices.Sort(list)
	return slices.Compact(list)
}

// numbers returns the words of a width and numbers that are greater.
func numbers(width int) []uint64 {
	list := words(width)
	for _, v := range words(width) {
		list = append(list, v|^ones(width), v|0xa5a5a5a5a5a5a5a5&^ones(width))
	}
	if width < 64 {
		list = append(list, ones(width)+1, ones(width)+2, math.MaxUint64)
	}
	slices.Sort(list)
	return slices.Compact(list)
}

// must returns the result of an operator, which must be there.
func must(t *testing.T, x uint8, width int, args ...uint64) uint64 {
	t.Helper()
	v, e := Apply(x, width, args...)
	if e != api.OK {
		t.Fatalf("Apply(%d, %d, %d): error %d", x, width, args, e)
	}
	return v
}

// eachWord calls f with all widths and words.
func eachWord(f func(width int, a uint64)) {
	for width := 1; width <= api.MaxWidth; width++ {
		for _, a := range words(width) {
			f(width, a)
		}
	}
}

// eachPair calls f with all widths and pairs of words.
func eachPair(f func(width int, a, b uint64)) {
	eachWord(func(width int, a uint64) {
		for _, b := range words(width) {
			f(width, a, b)
		}
	})
}

// eachTriple calls f with widths and triples of words.
func eachTriple(f func(width int, a, b, c uint64)) {
	for _, width := range []int{1, 2, 3, 4, 6, 8, 16, 31, 32, 33, 48, 63, 64} {
		for _, a := range words(width) {
			for _, b := range words(width) {
				for _, c := range words(width) {
					f(width, a, b, c)
				}
			}
		}
	}
}

// binary returns the operators with two arguments.
func binary() []uint8 {
	var list []uint8
	for x := api.OpAdd; x <= api.OpSle; x++ {
		list = append(list, x)
	}
	return list
}

// P9.1

func TestCheck(t *testing.T) {
	for width := 1; width <= 64; width++ {
		if e := Check(width); e != api.OK {
			t.Errorf("Check(%d): error %d", width, e)
		}
	}
	for _, width := range badWidths() {
		if e := Check(width); e != api.ErrRange {
			t.Errorf("Check(%d): error %d; want ErrRange", width, e)
		}
	}
}

func TestTrim(t *testing.T) {
	for width := 1; width <= 64; width++ {
		for _, v := range numbers(width) {
			want := modulo(width, whole(v))
			if got, e := Trim(width, v); got != want || e != api.OK {
				t.Errorf("Trim(%d, %d): %d, error %d; want %d", width, v, got, e, want)
			}
		}
	}
	if v, e := Trim(4, 31); v != 15 || e != api.OK {
		t.Error("Trim(4, 31):", v, e)
	}
}

func TestTrimBadWidths(t *testing.T) {
	for _, width := range badWidths() {
		for _, v := range []uint64{0, 1, 5, math.MaxUint64} {
			if got, e := Trim(width, v); got != 0 || e != api.ErrRange {
				t.Errorf("Trim(%d, %d): %d, error %d; want ErrRange", width, v, got, e)
			}
		}
	}
}

// P9.2

func TestSigned(t *testing.T) {
	for width := 1; width <= 64; width++ {
		for _, v := range numbers(width) {
			want := asSigned(width, modulo(width, whole(v))).Int64()
			if got, e := Signed(width, v); got != want || e != api.OK {
				t.Errorf("Signed(%d, %d): %d, error %d; want %d", width, v, got, e, want)
			}
		}
	}
}

func TestSignedExamples(t *testing.T) {
	for _, x := range []struct {
		width int
		v     uint64
		want  int64
	}{
		{4, 24, -8}, {64, math.MaxUint64, -1}, {64, 1 << 63, math.MinInt64}, {64, 1<<63 - 1, math.MaxInt64},
		{1, 0, 0}, {1, 1, -1}, {1, 2, 0}, {1, 3, -1}, {4, 7, 7}, {4, 8, -8}, {4, 15, -1}, {4, 16, 0},
		{63, 1 << 62, -1 << 62}, {63, 1<<62 - 1, 1<<62 - 1}, {63, 1 << 63, 0}, {32, 1 << 31, math.MinInt32},
	} {
		if got, e := Signed(x.width, x.v); got != x.want || e != api.OK {
			t.Errorf("Signed(%d, %d): %d, error %d; want %d", x.width, x.v, got, e, x.want)
		}
	}
}

func TestSignedBadWidths(t *testing.T) {
	for _, width := range badWidths() {
		for _, v := range []uint64{0, 1, 5, math.MaxUint64} {
			if got, e := Signed(width, v); got != 0 || e != api.ErrRange {
				t.Errorf("Signed(%d, %d): %d, error %d; want ErrRange", width, v, got, e)
			}
		}
	}
}

// P9.3

// fails fails the test unless Apply returns an error and 0.
func fails(t *testing.T, want api.Errno, x uint8, width int, args ...uint64) {
	t.Helper()
	if v, e := Apply(x, width, args...); v != 0 || e != want {
		t.Errorf("Apply(%d, %d) of %d arguments: %d, error %d; want error %d", x, width, len(args), v, e, want)
	}
}

// some returns n arguments.
func some(n int) []uint64 {
	return slices.Repeat([]uint64{math.MaxUint64}, n)
}

func TestApplyErrors(t *testing.T) {
	for x := range 256 {
		is := x >= 2 && x <= 21
		arity, _ := op.Arity(uint8(x))
		for n := range 6 {
			for _, width := range badWidths() {
				fails(t, api.ErrRange, uint8(x), width, some(n)...)
			}
			for width := 1; width <= 64; width++ {
				switch {
				case !is:
					fails(t, api.ErrRange, uint8(x), width, some(n)...)
				case n != arity:
					fails(t, api.ErrArg, uint8(x), width, some(n)...)
				default:
					must(t, uint8(x), width, some(n)...)
				}
			}
		}
	}
}

func TestApplyManyArguments(t *testing.T) {
	many := some(1 << 20)
	fails(t, api.ErrArg, api.OpIte, 64, many...)
	fails(t, api.ErrArg, api.OpAdd, 64, many...)
	fails(t, api.ErrArg, api.OpNot, 64, many...)
	fails(t, api.ErrRange, api.OpVar, 64, many...)
	fails(t, api.ErrRange, api.OpAdd, 0, many...)
}

func TestApplyErrorExamples(t *testing.T) {
	fails(t, api.ErrRange, api.OpVar, 3)
	fails(t, api.ErrArg, api.OpAdd, 3, 1)
	fails(t, api.ErrRange, api.OpAdd, 0, 1)
	fails(t, api.ErrRange, 22, 3)
	fails(t, api.ErrRange, api.OpConst, 3, 1)
	fails(t, api.ErrRange, 255, 3, 1, 1)
	fails(t, api.ErrArg, api.OpIte, 3, 1, 1)
	fails(t, api.ErrArg, api.OpNot, 3)
	fails(t, api.ErrArg, api.OpNot, 3, 1, 1)
}

func TestApplyExamples(t *testing.T) {
	for _, x := range []struct {
		name string
		args []uint64
		want uint64
	}{
		{"not", []uint64{2}, 5}, {"neg", []uint64{3}, 5}, {"add", []uint64{5, 6}, 3}, {"sub", []uint64{2, 5}, 5}, {"mul", []uint64{3, 5}, 7},
		{"div", []uint64{7, 2}, 3}, {"div", []uint64{7, 0}, 7}, {"rem", []uint64{7, 2}, 1}, {"rem", []uint64{5, 0}, 5},
		{"div", []uint64{0, 0}, 7}, {"rem", []uint64{0, 0}, 0}, {"div", []uint64{3, 8}, 7}, {"rem", []uint64{3, 8}, 3},
		{"and", []uint64{6, 3}, 2}, {"or", []uint64{4, 1}, 5}, {"xor", []uint64{6, 3}, 5},
		{"shl", []uint64{3, 1}, 6}, {"shl", []uint64{3, 3}, 0}, {"shr", []uint64{6, 1}, 3}, {"shr", []uint64{6, 3}, 0},
		{"sar", []uint64{6, 1}, 7}, {"sar", []uint64{6, 5}, 7}, {"sar", []uint64{3, 7}, 0}, {"sar", []uint64{4, 3}, 7}, {"sar", []uint64{4, 2}, 7}, {"sar", []uint64{3, 1}, 1},
		{"shl", []uint64{3, 9}, 6}, {"shr", []uint64{6, 9}, 3}, {"sar", []uint64{6, 8}, 6},
		{"lt", []uint64{3, 4}, 1}, {"slt", []uint64{3, 4}, 0}, {"le", []uint64{4, 4}, 1}, {"sle", []uint64{4, 3}, 1},
		{"slt", []uint64{4, 3}, 1}, {"lt", []uint64{4, 4}, 0}, {"slt", []uint64{4, 4}, 0}, {"sle", []uint64{4, 4}, 1}, {"lt", []uint64{3, 8}, 0},
		{"eq", []uint64{1, 9}, 1}, {"ne", []uint64{1, 9}, 0}, {"eq", []uint64{1, 2}, 0}, {"ne", []uint64{1, 2}, 1},
		{"ite", []uint64{4, 1, 2}, 1}, {"ite", []uint64{0, 1, 2}, 2}, {"ite", []uint64{8, 1, 2}, 2}, {"ite", []uint64{2, 9, 2}, 1}, {"ite", []uint64{0, 9, 10}, 2},
	} {
		o, _ := op.Of(x.name)
		if v, e := Apply(o, 3, x.args...); v != x.want || e != api.OK {
			t.Errorf("%s %d: %d, error %d; want %d", x.name, x.args, v, e, x.want)
		}
	}
}

func TestApplyExamplesOtherWidths(t *testing.T) {
	for _, x := range []struct {
		op    uint8
		width int
		a, b  uint64
		want  uint64
	}{
		{api.OpMul, 64, 1 << 32, 1 << 32, 0},
		{api.OpSar, 1, 1, 0, 1},
		{api.OpSlt, 1, 1, 0, 1},
		{api.OpMul, 64, 1<<32 - 1, 1<<32 + 1, math.MaxUint64},
		{api.OpDiv, 64, 5, 0, math.MaxUint64},
		{api.OpDiv, 1, 0, 0, 1},
		{api.OpRem, 64, math.MaxUint64, 0, math.MaxUint64},
		{api.OpShl, 64, 1, 63, 1 << 63},
		{api.OpShl, 64, 1, 64, 0},
		{api.OpShl, 64, math.MaxUint64, math.MaxUint64, 0},
		{api.OpShr, 64, 1 << 63, 63, 1},
		{api.OpShr, 64, math.MaxUint64, 64, 0},
		{api.OpShr, 64, math.MaxUint64, 1 << 63, 0},
		{api.OpSar, 64, 1 << 63, 63, math.MaxUint64},
		{api.OpSar, 64, 1 << 63, 64, math.MaxUint64},
		{api.OpSar, 64, 1 << 63, math.MaxUint64, math.MaxUint64},
		{api.OpSar, 64, 1<<63 - 1, math.MaxUint64, 0},
		{api.OpSar, 1, 1, 1, 1},
		{api.OpSle, 64, 1 << 63, 1<<63 - 1, 1},
		{api.OpLe, 64, 1 << 63, 1<<63 - 1, 0},
	} {
		if v, e := Apply(x.op, x.width, x.a, x.b); v != x.want || e != api.OK {
			t.Errorf("Apply(%d, %d; %d, %d): %d, error %d; want %d", x.op, x.width, x.a, x.b, v, e, x.want)
		}
	}
}

// one returns the result of an operator with one argument, by the table of the chapter.
func one(x uint8, width int, a uint64) uint64 {
	v := whole(a)
	if x == api.OpNot {
		return modulo(width, new(big.Int).Sub(new(big.Int).Sub(power(width), big.NewInt(1)), v))
	}
	return modulo(width, new(big.Int).Neg(v))
}

// two returns the result of an operator with two arguments, by the table of the chapter.
func two(x uint8, width int, a, b uint64) uint64 {
	v, w, s := whole(a), whole(b), asSigned(width, a).Cmp(asSigned(width, b))
	r := new(big.Int)
	switch x {
	case api.OpAdd:
		return modulo(width, r.Add(v, w))
	case api.OpSub:
		return modulo(width, r.Sub(v, w))
	case api.OpMul:
		return modulo(width, r.Mul(v, w))
	case api.OpDiv, api.OpRem:
		return quotient(x, width, v, w)
	case api.OpAnd:
		return modulo(width, r.And(v, w))
	case api.OpOr:
		return modulo(width, r.Or(v, w))
	case api.OpXor:
		return modulo(width, r.Xor(v, w))
	case api.OpShl, api.OpShr, api.OpSar:
		return shifted(x, width, a, b)
	case api.OpEq:
		return bit(v.Cmp(w) == 0)
	case api.OpNe:
		return bit(v.Cmp(w) != 0)
	case api.OpLt:
		return bit(v.Cmp(w) < 0)
	case api.OpLe:
		return bit(v.Cmp(w) <= 0)
	case api.OpSlt:
		return bit(s < 0)
	}
	return bit(s <= 0)
}

// quotient returns the result of div or rem.
func quotient(x uint8, width int, v, w *big.Int) uint64 {
	if w.Sign() == 0 {
		if x == api.OpDiv {
			return ones(width)
		}
		return v.Uint64()
	}
	q := new(big.Int).Div(v, w)
	if x == api.OpDiv {
		return modulo(width, q)
	}
	return modulo(width, new(big.Int).Sub(v, q.Mul(q, w)))
}

// shifted returns the result of a shift.
func shifted(x uint8, width int, a, b uint64) uint64 {
	if b >= uint64(width) {
		if x == api.OpSar && a >= top(width) {
			return ones(width)
		}
		return 0
	}
	switch x {
	case api.OpShl:
		return modulo(width, new(big.Int).Mul(whole(a), power(int(b))))
	case api.OpShr:
		return modulo(width, new(big.Int).Div(whole(a), power(int(b))))
	}
	// Div rounds down here, because what it divides by is positive.
	return modulo(width, new(big.Int).Div(asSigned(width, a), power(int(b))))
}

// bit returns a truth value as a word.
func bit(is bool) uint64 {
	if is {
		return 1
	}
	return 0
}

func TestApplyOneArgument(t *testing.T) {
	for width := 1; width <= 64; width++ {
		for _, x := range []uint8{api.OpNot, api.OpNeg} {
			for _, a := range numbers(width) {
				want := one(x, width, modulo(width, whole(a)))
				if v, e := Apply(x, width, a); v != want || e != api.OK {
					t.Fatalf("Apply(%d, %d; %d): %d, error %d; want %d", x, width, a, v, e, want)
				}
			}
		}
	}
}

func TestApplyTwoArguments(t *testing.T) {
	eachPair(func(width int, a, b uint64) {
		for _, x := range binary() {
			want := two(x, width, a, b)
			if v, e := Apply(x, width, a, b); v != want || e != api.OK {
				t.Fatalf("Apply(%d, %d; %d, %d): %d, error %d; want %d", x, width, a, b, v, e, want)
			}
		}
	})
}

func TestApplyThreeArguments(t *testing.T) {
	eachTriple(func(width int, a, b, c uint64) {
		want := c
		if a != 0 {
			want = b
		}
		if v, e := Apply(api.OpIte, width, a, b, c); v != want || e != api.OK {
			t.Fatalf("ite of width %d of %d, %d, %d: %d, error %d; want %d", width, a, b, c, v, e, want)
		}
	})
}

// P9.4

func TestResultsAreWords(t *testing.T) {
	for width := 1; width <= 64; width++ {
		for x := api.OpNot; x <= api.OpIte; x++ {
			n, _ := op.Arity(x)
			for _, a := range numbers(width) {
				for _, b := range words(width) {
					v := must(t, x, width, []uint64{a, b, ^a}[:n]...)
					if v > ones(width) {
						t.Fatalf("Apply(%d, %d; %d, %d, ..): %d", x, width, a, b, v)
					}
					if x >= api.OpEq && x <= api.OpSle && v > 1 {
						t.Fatalf("the comparison %d of width %d of %d, %d: %d", x, width, a, b, v)
					}
				}
			}
		}
	}
}

func TestArgumentsCountModulo(t *testing.T) {
	for width := 1; width <= 64; width++ {
		mask := ones(width)
		for x := api.OpNot; x <= api.OpIte; x++ {
			n, _ := op.Arity(x)
			for _, a := range numbers(width) {
				for _, b := range []uint64{a, ^a, a * 3, a | ^mask, a &^ mask, 0, 1, mask, math.MaxUint64} {
					full := []uint64{a, b, a + b}[:n]
					low := []uint64{a & mask, b & mask, (a + b) & mask}[:n]
					if v, w := must(t, x, width, full...), must(t, x, width, low...); v != w {
						t.Fatalf("Apply(%d, %d) of %d: %d; of %d: %d", x, width, full, v, low, w)
					}
				}
			}
		}
	}
}

// P9.5

func TestNegIsNotAndOneMore(t *testing.T) {
	eachWord(func(width int, a uint64) {
		want := must(t, api.OpAdd, width, must(t, api.OpNot, width, a), 1)
		if v := must(t, api.OpNeg, width, a); v != want {
			t.Errorf("neg of width %d of %d: %d; want %d", width, a, v, want)
		}
	})
}

func TestSubIsAddOfNeg(t *testing.T) {
	eachPair(func(width int, a, b uint64) {
		want := must(t, api.OpAdd, width, a, must(t, api.OpNeg, width, b))
		if v := must(t, api.OpSub, width, a, b); v != want {
			t.Errorf("sub of width %d of %d, %d: %d; want %d", width, a, b, v, want)
		}
	})
}

func TestDivAndRem(t *testing.T) {
	eachPair(func(width int, a, b uint64) {
		q, r := must(t, api.OpDiv, width, a, b), must(t, api.OpRem, width, a, b)
		if b == 0 {
			if q != ones(width) || r != a {
				t.Errorf("div and rem of width %d of %d, 0: %d, %d", width, a, q, r)
			}
			return
		}
		if v := must(t, api.OpAdd, width, r, must(t, api.OpMul, width, q, b)); v != a || r >= b {
			t.Errorf("div and rem of width %d of %d, %d: %d, %d", width, a, b, q, r)
		}
	})
}

// P9.6

func TestOperatorsThatCommute(t *testing.T) {
	eachPair(func(width int, a, b uint64) {
		for _, x := range binary() {
			if !op.Commutes(x) {
				continue
			}
			if v, w := must(t, x, width, a, b), must(t, x, width, b, a); v != w {
				t.Errorf("Apply(%d, %d) of %d, %d: %d; the other way round: %d", x, width, a, b, v, w)
			}
		}
	})
}

func TestAssociativeOperators(t *testing.T) {
	eachTriple(func(width int, a, b, c uint64) {
		for _, x := range []uint8{api.OpAdd, api.OpMul, api.OpAnd, api.OpOr, api.OpXor} {
			v := must(t, x, width, a, must(t, x, width, b, c))
			if w := must(t, x, width, must(t, x, width, a, b), c); v != w {
				t.Fatalf("Apply(%d, %d) of %d, %d, %d: %d, %d", x, width, a, b, c, v, w)
			}
		}
	})
}

func TestOperatorsThatDistribute(t *testing.T) {
	eachTriple(func(width int, a, b, c uint64) {
		for _, x := range [][2]uint8{{api.OpMul, api.OpAdd}, {api.OpAnd, api.OpOr}, {api.OpAnd, api.OpXor}, {api.OpOr, api.OpAnd}} {
			v := must(t, x[0], width, a, must(t, x[1], width, b, c))
			w := must(t, x[1], width, must(t, x[0], width, a, b), must(t, x[0], width, a, c))
			if v != w {
				t.Fatalf("%d over %d of width %d of %d, %d, %d: %d, %d", x[0], x[1], width, a, b, c, v, w)
			}
		}
	})
}

// P9.7

func TestComparisons(t *testing.T) {
	eachPair(func(width int, a, b uint64) {
		apply := func(x uint8, a, b uint64) uint64 {
			return must(t, x, width, a, b)
		}
		lt, eq, gt := apply(api.OpLt, a, b), apply(api.OpEq, a, b), apply(api.OpLt, b, a)
		if lt+eq+gt != 1 {
			t.Errorf("lt, eq, lt the other way round, of width %d of %d, %d: %d, %d, %d", width, a, b, lt, eq, gt)
		}
		if v := apply(api.OpLe, a, b); v != lt|eq {
			t.Errorf("le of width %d of %d, %d: %d", width, a, b, v)
		}
		if v := apply(api.OpNe, a, b); v != 1-eq {
			t.Errorf("ne of width %d of %d, %d: %d", width, a, b, v)
		}
		turnedA, turnedB := a^top(width), b^top(width)
		if v, w := apply(api.OpSlt, a, b), apply(api.OpLt, turnedA, turnedB); v != w {
			t.Errorf("slt of width %d of %d, %d: %d; lt of both turned: %d", width, a, b, v, w)
		}
		if v, w := apply(api.OpSle, a, b), apply(api.OpLe, turnedA, turnedB); v != w {
			t.Errorf("sle of width %d of %d, %d: %d; le of both turned: %d", width, a, b, v, w)
		}
	})
}

// P9.8

func TestShiftsByLessThanTheWidth(t *testing.T) {
	eachWord(func(width int, a uint64) {
		for b := range uint64(width) {
			if v, w := must(t, api.OpShl, width, a, b), must(t, api.OpMul, width, a, 1<<b); v != w {
				t.Errorf("shl of width %d of %d, %d: %d; mul: %d", width, a, b, v, w)
			}
			if v, w := must(t, api.OpShr, width, a, b), must(t, api.OpDiv, width, a, 1<<b); v != w {
				t.Errorf("shr of width %d of %d, %d: %d; div: %d", width, a, b, v, w)
			}
		}
	})
}

func TestShiftsByTheWidthOrMore(t *testing.T) {
	eachPair(func(width int, a, b uint64) {
		if b < uint64(width) {
			return
		}
		filled := uint64(0)
		if a >= top(width) {
			filled = ones(width)
		}
		l, r, s := must(t, api.OpShl, width, a, b), must(t, api.OpShr, width, a, b), must(t, api.OpSar, width, a, b)
		if l != 0 || r != 0 || s != filled {
			t.Errorf("shl, shr, sar of width %d of %d, %d: %d, %d, %d", width, a, b, l, r, s)
		}
	})
}

func TestSarIsShr(t *testing.T) {
	check := func(width int, a, b uint64) {
		want := must(t, api.OpShr, width, a, b)
		if a >= top(width) {
			want = must(t, api.OpNot, width, must(t, api.OpShr, width, must(t, api.OpNot, width, a), b))
		}
		if v := must(t, api.OpSar, width, a, b); v != want {
			t.Errorf("sar of width %d of %d, %d: %d; want %d", width, a, b, v, want)
		}
	}
	eachPair(check)
	eachWord(func(width int, a uint64) {
		for b := range uint64(width) {
			check(width, a, b)
		}
	})
}

// P9.9

func TestLowestBits(t *testing.T) {
	eachPair(func(width int, a, b uint64) {
		for _, x := range []uint8{api.OpAdd, api.OpSub, api.OpMul, api.OpAnd, api.OpOr, api.OpXor, api.OpNot, api.OpNeg} {
			n, _ := op.Arity(x)
			args := []uint64{a, b}[:n]
			v := must(t, x, width, args...)
			for k := 1; k <= width; k++ {
				if low := must(t, x, k, args...); low != v&ones(k) {
					t.Fatalf("Apply(%d) of %d: %d of width %d, %d of width %d", x, args, v, width, low, k)
				}
			}
		}
	})
}

func TestLowestBitsOfShl(t *testing.T) {
	eachWord(func(width int, a uint64) {
		for k := 1; k <= width; k++ {
			for b := range uint64(k) {
				v, low := must(t, api.OpShl, width, a, b), must(t, api.OpShl, k, a, b)
				if low != v&ones(k) {
					t.Fatalf("shl of %d, %d: %d of width %d, %d of width %d", a, b, v, width, low, k)
				}
			}
		}
	})
}

// R3, R6

func TestArgumentsAreNotModified(t *testing.T) {
	args := []uint64{math.MaxUint64, 1 << 40, 12345}
	for x := range 256 {
		for n := range 4 {
			first, e := Apply(uint8(x), 3, args[:n]...)
			if !slices.Equal(args, []uint64{math.MaxUint64, 1 << 40, 12345}) {
				t.Fatalf("after Apply(%d, 3) of %d arguments they are %d", x, n, args)
			}
			if again, f := Apply(uint8(x), 3, args[:n]...); again != first || f != e {
				t.Errorf("Apply(%d, 3) of %d arguments: %d, error %d; again: %d, error %d", x, n, first, e, again, f)
			}
		}
	}
}
