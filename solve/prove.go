package solve

import (
	"slices"

	"weephole/api"
)

// maxPatience ends the search for a proof at last, because a formula may have none whose clauses are all short enough.
const maxPatience = 1 << 40

// find returns the answer, and the solver that has what shows it.
func (s *solver) find(f api.Formula, budget int) (*solver, uint8) {
	answer := s.search(budget)
	for answer == api.Unsat && len(s.beyond) > 0 && s.patience < maxPatience {
		s, answer = s.again(f, budget)
	}
	return s, answer
}

// again returns the answer once more after it was Unsat, but what was learned goes beyond what a proof may have. It shows the way to a proof without clauses that are too long. If this way leads to such clauses, too, a new search evades more of them.
func (s *solver) again(f api.Formula, budget int) (*solver, uint8) {
	t := start(f)
	t.longest = s.longest
	t.evaded = s.evaded
	t.patience = 2*s.patience + 1
	t.conflicts = s.conflicts
	t.runEnd += s.conflicts
	t.forgetAt += s.conflicts
	answer, arrived := t.follow(t.take(s), budget)
	if !arrived {
		answer = t.search(budget)
	}
	return t, answer
}

// take takes over what another solver has learned, as far as it is implied by what was there before, and returns the rest, the guides: each of them is implied by the clauses and the guides before it.
func (s *solver) take(from *solver) [][]literal {
	for _, c := range from.proof {
		s.admit(literalsOf(c))
	}
	var guides [][]literal
	for _, c := range from.beyond {
		if s.absurd = s.absurd || s.propagate() != none; s.absurd {
			break
		}
		if len(c) <= s.longest && s.implies(c) {
			s.admit(c)
		} else {
			guides = append(guides, c)
		}
	}
	return guides
}

// admit adds a clause that is implied, while there are no decisions.
func (s *solver) admit(c []literal) {
	s.write(c)
	c, holds := rest(slices.Clone(c), s.value)
	switch {
	case holds:
	case len(c) == 0:
		s.absurd = true
	case len(c) == 1:
		s.assign(c[0], none)
	default:
		s.add(c, len(c))
	}
}

// implies reports whether a clause is implied, while there are no decisions and all that follows is known.
func (s *solver) implies(c []literal) bool {
	s.levels = append(s.levels, level{start: len(s.trail)})
	holds := false
	for _, l := range c {
		switch s.value[l] {
		case isTrue:
			holds = true
		case unknown:
			s.assign(l.not(), none)
		}
	}
	is := holds || s.propagate() != none
	s.back(0)
	return is
}

// follow finds a conflict without any decision, if there would be one with the guides as clauses. A guide of which all literals but one are false says that this one follows; so a decision makes it false, too, which must lead to a conflict. What is learned from that depends on no guide, and needs no more literals than there are decisions. false: they are too many for a clause of a proof.
func (s *solver) follow(guides [][]literal, budget int) (uint8, bool) {
	// For each level: with so many guides, from the first one on, as clauses there would be a conflict. With each decision these are fewer, because a guide is implied by those before it.
	within := []int{len(guides)}
	for {
		conflict := s.propagate()
		if s.absurd || conflict != none && len(s.levels) == 0 {
			return api.Unsat, true
		}
		if conflict == none {
			i, l := s.guide(guides[:within[len(s.levels)]])
			s.levels = append(s.levels, level{start: len(s.trail)})
			s.assign(l.not(), none)
			within = append(within, i)
			continue
		}
		s.conflicts++
		if s.conflicts == budget {
			return api.Unknown, true
		}
		c := s.lesson(conflict)
		if len(c) > s.longest {
			s.back(0)
			return api.Unknown, false
		}
		s.learn(c)
		within = within[:len(s.levels)+1]
	}
}

// guide returns the number of the first guide from which a literal follows, and this literal. There is one: where a guide is false another one before it is of use, because it is implied, but not without any guide.
func (s *solver) guide(guides [][]literal) (int, literal) {
	for i, c := range guides {
		if s.open(c) == 1 {
			return i, c[0]
		}
	}
	return 0, 0
}

// open returns how many literals of a clause are not false, but at most 2, and also 2 if one of them holds. They come first then, so that they are found at once the next time.
func (s *solver) open(c []literal) int {
	n := 0
	for i, l := range c {
		switch s.value[l] {
		case isTrue:
			c[0], c[i] = c[i], c[0]
			return 2
		case unknown:
			c[n], c[i] = c[i], c[n]
			n++
		}
		if n == 2 {
			break
		}
	}
	return n
}
