package solve

// propagate makes hold what follows, and returns a clause of which all literals are false, or none.
func (s *solver) propagate() ref {
	for s.next < len(s.trail) {
		l := s.trail[s.next].not()
		s.next++
		for _, w := range s.pairs[l] {
			switch s.value[w.other] {
			case isFalse:
				return w.clause
			case unknown:
				s.assign(w.other, w.clause)
			}
		}
		if conflict := s.visit(l); conflict != none {
			return conflict
		}
	}
	return none
}

// visit looks at the clauses of more than two literals in which a literal is watched that became false.
func (s *solver) visit(l literal) ref {
	list := s.watches[l]
	kept := 0
	for i, w := range list {
		if s.value[w.other] != isTrue && s.move(&w, l) {
			continue
		}
		list[kept] = w
		kept++
		switch s.value[w.other] {
		case isFalse:
			kept += copy(list[kept:], list[i+1:])
			s.watches[l] = list[:kept]
			return w.clause
		case unknown:
			s.assign(w.other, w.clause)
		}
	}
	s.watches[l] = list[:kept]
	return none
}

// move reports whether a clause has a literal that is not false and could be watched in place of a false one, and lets it be watched. Otherwise w.other is the other one that is watched: it holds, or follows, or all are false.
func (s *solver) move(w *watch, l literal) bool {
	c := s.literals(w.clause)
	w.other = c[0] ^ c[1] ^ l
	if s.value[w.other] == isTrue {
		return false
	}
	// A long clause takes too long to go through again and again from its beginning, where most literals will be false.
	found := s.found(w.clause)
	for range c[2:] {
		if x := c[*found]; s.value[x] != isFalse {
			c[0], c[1], c[*found] = w.other, x, l
			s.watches[x] = append(s.watches[x], *w)
			return true
		}
		if *found++; int(*found) == len(c) {
			*found = 2
		}
	}
	return false
}
