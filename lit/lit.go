// Package lit works with literals and clauses (layer 1, doc/01-lit.md).
package lit

import (
	"slices"

	"weephole/api"
)

// Check returns an error unless a clause is valid for n variables.
func Check(n int, c ...int) api.Errno {
	if n < 0 || n > api.MaxVars {
		return api.ErrRange
	}
	if len(c) > api.MaxClause {
		return api.ErrLong
	}
	for _, x := range c {
		if x == 0 || variable(x) > uint(n) {
			return api.ErrRange
		}
	}
	return api.OK
}

// Norm returns a clause with each literal once, in the order of variables; true: it always holds.
func Norm(c ...int) ([]int, bool) {
	list := ordered(c, Less)
	kept := 0
	for _, x := range list {
		if x == 0 {
			continue
		}
		if kept > 0 {
			last := list[kept-1]
			if last == x {
				continue
			}
			// A literal's negative comes right after it, so comparing neighbours finds every such pair.
			if variable(last) == variable(x) {
				return nil, true
			}
		}
		list[kept] = x
		kept++
	}
	// Without the limit on the capacity, what was left out would still be in the caller's reach.
	return list[:kept:kept], false
}

// Holds reports whether a clause holds.
func Holds(m []bool, c ...int) bool {
	for _, x := range c {
		v := variable(x)
		if v > 0 && v <= uint(len(m)) && m[v-1] == (x > 0) {
			return true
		}
	}
	return false
}

// Less reports whether a literal comes before another one.
func Less(a, b int) bool {
	va, vb := variable(a), variable(b)
	return va < vb || va == vb && a > b
}

// variable returns the absolute value of a number. It is unsigned because that of the least number is no int.
func variable(x int) uint {
	if x < 0 {
		return -uint(x)
	}
	return uint(x)
}

// ordered returns a copy of a list whose elements stand in the order that less gives.
func ordered[T any](list []T, less func(a, b T) bool) []T {
	sorted := slices.Clone(list)
	slices.SortFunc(sorted, func(a, b T) int {
		switch {
		case less(a, b):
			return -1
		case less(b, a):
			return 1
		}
		return 0
	})
	return sorted
}
