package solve

import (
	"slices"

	"weephole/api"
)

const (
	// deepest is how many reasons behind each other are looked at to find out whether a literal is needed.
	deepest = 500
	// firstPatience is how many conflicts are evaded, at first, before something is learned from one that is too long for a proof.
	firstPatience = 100
)

// mark is what is known of a variable while a clause is learned.
type mark uint8

const (
	unseen   mark = iota
	seen          // it is one of the clause, or its literal was replaced by its reason
	needless      // its value follows from those of the clause
	needed        // its value does not, as far as was looked
)

// lessons is what was learned from conflicts.
type lessons struct {
	proof    [][]int
	beyond   [][]literal // what was learned since the first clause that is too long for a proof, with this one
	evaded   int         // how many conflicts were evaded
	patience int         // how many are
	longest  int         // how many literals a clause of a proof may have
	activity []int       // for each variable: its activity in the heap
	growth   int         // by how much activities grow
	marks    []mark      // for each variable
	marked   []literal   // a literal of each variable that is not unseen
	draft    []literal   // room for a clause
}

// noLessons returns what was learned about the variables 1 to n before the first conflict.
func noLessons(n int) lessons {
	return lessons{
		patience: firstPatience,
		longest:  api.MaxClause,
		activity: make([]int, n+1),
		growth:   firstGrowth,
		marks:    make([]mark, n+1),
	}
}

// lesson returns a clause that follows from a conflict that is not at the level 0. All of its literals are false, but only the first one since the last decision.
func (s *solver) lesson(conflict ref) []literal {
	c := s.cut(conflict)
	s.grow(s.marked)
	c = s.shorten(c)
	s.unmark()
	// The variables of the clause grow once more. If all that have to do with each conflict grew alike, the order of the decisions would stay the same, and so would the way of the search.
	s.grow(c)
	s.age()
	if len(c) > s.longest {
		c = s.decided(c)
	}
	return c
}

// learn learns the clause that follows from a conflict, and takes back decisions until one of its literals is no longer false. This one follows then.
func (s *solver) learn(c []literal) {
	s.write(c)
	glue := s.glue(c)
	s.back(s.second(c))
	reason := none
	if len(c) > 1 {
		reason = s.add(c, glue)
	}
	s.assign(c[0], reason)
}

// cut finds the clause of a lesson by replacing literals of the conflict by the reasons for which they are false, the last ones first.
func (s *solver) cut(conflict ref) []literal {
	c := append(s.draft[:0], 0)
	open := 0 // how many literals since the last decision are still to be replaced
	for clause, i := conflict, len(s.trail)-1; ; i-- {
		for _, l := range s.literals(clause) {
			switch at := s.levelOf(l); {
			case at == 0 || s.marks[l.variable()] != unseen:
			case at == len(s.levels):
				s.mark(l, seen)
				open++
			default:
				s.mark(l, seen)
				c = append(c, l)
			}
		}
		for s.marks[s.trail[i].variable()] == unseen {
			i--
		}
		open--
		if open == 0 {
			c[0] = s.trail[i].not()
			s.draft = c
			return c
		}
		clause = s.reason[s.trail[i].variable()]
	}
}

// shorten leaves out the literals of a clause that are false because others are.
func (s *solver) shorten(c []literal) []literal {
	for _, l := range c {
		s.levels[s.levelOf(l)-1].met = s.conflicts
	}
	kept := c[:1]
	for _, l := range c[1:] {
		if !s.followsFrom(s.reason[l.variable()], l, 0) {
			kept = append(kept, l)
		}
	}
	return kept
}

// followsFrom reports whether the literals of a reason, but for the one for which it is, are false because those of the clause are.
func (s *solver) followsFrom(reason ref, of literal, depth int) bool {
	if reason == none || depth > deepest {
		return false
	}
	for _, l := range s.literals(reason) {
		if l.variable() != of.variable() && !s.follows(l, depth) {
			return false
		}
	}
	return true
}

// follows reports whether a literal is false because those of the clause are.
func (s *solver) follows(l literal, depth int) bool {
	at := s.levelOf(l)
	if at == 0 {
		return true
	}
	switch s.marks[l.variable()] {
	case seen, needless:
		return true
	case needed:
		return false
	}
	// If none of the clause is of the same level, the reasons lead back to the decision of this level, for which there is no reason.
	is := s.levels[at-1].met == s.conflicts && s.followsFrom(s.reason[l.variable()], l, depth+1)
	if is {
		s.mark(l, needless)
	} else {
		s.mark(l, needed)
	}
	return is
}

// decided returns a clause whose literals are the negatives of the decisions because of which those of c are false. So it has at most one literal of each level; the first one is of the last level.
func (s *solver) decided(c []literal) []literal {
	for _, l := range c {
		s.mark(l, seen)
	}
	var list []literal
	for i := len(s.trail) - 1; i >= s.levels[0].start; i-- {
		l := s.trail[i]
		v := l.variable()
		switch {
		case s.marks[v] == unseen:
		case s.reason[v] == none:
			list = append(list, l.not())
		default:
			for _, x := range s.literals(s.reason[v]) {
				s.mark(x, seen)
			}
		}
	}
	s.unmark()
	return list
}

// evade goes out of the way of a conflict with more decisions than a clause of a proof may have literals. Nothing is learned from it, because what depends on a clause that is too long could not be in the proof either. In place of some of these decisions their negatives come next, which most often shows how fewer decisions conflict. Which ones changes each time, so that not the same conflicts take turns.
func (s *solver) evade(c []literal) {
	s.evaded++
	s.back(0)
	step := 2 + s.evaded%31
	for i := s.evaded / 31 % step; i < len(c); i += step {
		s.last[c[i].variable()] = c[i]
	}
}

// write adds a clause to the proof, unless it is too long for any, or may depend on one that is.
func (s *solver) write(c []literal) {
	if len(c) <= s.longest && len(s.beyond) == 0 {
		s.proof = append(s.proof, numbersOf(c))
		return
	}
	s.beyond = append(s.beyond, slices.Clone(c))
}

// glue returns of how many levels the literals of a clause are.
func (s *solver) glue(c []literal) int {
	n := 0
	for _, l := range c {
		x := &s.levels[s.levelOf(l)-1]
		if x.counted != s.conflicts {
			x.counted = s.conflicts
			n++
		}
	}
	return n
}

// second puts a literal of the last level that those behind the first one have at the second place, and returns this level (0: there is only one literal).
func (s *solver) second(c []literal) int {
	last := 0
	for i := 1; i < len(c); i++ {
		if at := s.levelOf(c[i]); at > last {
			c[1], c[i] = c[i], c[1]
			last = at
		}
	}
	return last
}

// mark marks the variable of a literal.
func (s *lessons) mark(l literal, m mark) {
	v := l.variable()
	if s.marks[v] == unseen {
		s.marked = append(s.marked, l)
	}
	s.marks[v] = m
}

// unmark takes back all marks.
func (s *lessons) unmark() {
	for _, l := range s.marked {
		s.marks[l.variable()] = unseen
	}
	s.marked = s.marked[:0]
}
