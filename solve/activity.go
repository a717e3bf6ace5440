package solve

import (
	"weephole/order"
)

const (
	// Activities grow by more with each conflict, because the last ones count most. As soon as they would grow by more than maxGrowth, all of them are divided by 2^scale; so they stay far below what order allows.
	firstGrowth = 1 << 9
	maxGrowth   = 1 << 40
	scale       = 30
)

// heap returns a heap of the variables with these activities, from 1 on.
func heap(activity []int) *order.Heap {
	// No error: a formula has no more variables than a heap.
	h, _ := order.New(len(activity) - 1)
	for v, a := range activity {
		if a > 0 {
			h.Bump(v, a)
		}
	}
	return h
}

// grow lets the activities of the variables of literals grow.
func (s *solver) grow(literals []literal) {
	for _, l := range literals {
		v := l.variable()
		s.activity[v] += s.growth
		s.Bump(v, s.growth)
	}
}

// age makes the next conflict count more than those so far.
func (s *solver) age() {
	s.growth += s.growth / 32
	if s.growth <= maxGrowth {
		return
	}
	s.growth >>= scale
	for v := range s.activity {
		s.activity[v] >>= scale
	}
	s.Heap = heap(s.activity)
}
