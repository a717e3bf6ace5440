package solve

import (
	"cmp"
	"slices"
)

const (
	// forgetFirst is the number of conflicts after which clauses are forgotten for the first time; each time it takes forgetMore conflicts more.
	forgetFirst, forgetMore = 2000, 300
	// goodGlue is the glue up to which a clause is never forgotten.
	goodGlue = 2
)

// ref is the place of a clause in the pool of a store.
type ref uint32

// none is no clause.
const none ref = 0

// head is how many elements of a pool come before the literals of a clause.
const head = 3

// store is clauses of at least two literals each. The first two of each are watched: when one of them becomes false the clause is looked at.
type store struct {
	// pool has for each clause how many literals it has, its glue, where the last one was found that could be watched, and its literals. The glue is of how many levels they were when the clause was learned, or 0 if it is one of the formula: a clause with a small glue is more likely to be of use. (One slice for all of them, because a slice for each one takes longer to go through.)
	pool    []literal
	pairs   [][]watch // for each literal: the clauses of two literals that it is in
	watches [][]watch // for each literal: the other clauses in which it is watched
}

// watch is a clause to be looked at. Nothing has to be done if another literal of it holds.
type watch struct {
	clause ref
	other  literal
}

// emptyStore returns a store without clauses for the variables 1 to n.
func emptyStore(n int) store {
	return store{
		pool:    make([]literal, 1), // no clause has the place none
		pairs:   make([][]watch, 2*n+2),
		watches: make([][]watch, 2*n+2),
	}
}

// add adds a clause, and returns its place.
func (t *store) add(literals []literal, glue int) ref {
	r := ref(len(t.pool))
	t.pool = append(t.pool, literal(len(literals)), literal(glue), 2)
	t.pool = append(t.pool, literals...)
	lists := t.watches
	if len(literals) == 2 {
		lists = t.pairs
	}
	a, b := literals[0], literals[1]
	lists[a] = append(lists[a], watch{r, b})
	lists[b] = append(lists[b], watch{r, a})
	return r
}

// literals returns the literals of a clause, which may be put in another order.
func (t *store) literals(r ref) []literal {
	return t.pool[r+head:][:t.pool[r]]
}

func (t *store) glueOf(r ref) int {
	return int(t.pool[r+1])
}

// found returns where a literal of the clause was found that could be watched.
func (t *store) found(r ref) *literal {
	return &t.pool[r+2]
}

// refs goes through the clauses, from the oldest one on.
func (t *store) refs(yield func(r ref) bool) {
	for r := none + 1; int(r) < len(t.pool); r += head + ref(t.pool[r]) {
		if !yield(r) {
			return
		}
	}
}

// forget forgets half of the clauses that were learned, and what no longer matters with values that will never be taken back: clauses that hold, and literals that are false. Places of clauses change.
func (t *store) forget(value []truth) {
	useless := t.useless()
	old := *t
	t.pool = make([]literal, 1, len(old.pool))
	for l := range t.watches {
		t.pairs[l] = t.pairs[l][:0]
		t.watches[l] = t.watches[l][:0]
	}
	for r := range old.refs {
		if len(useless) > 0 && useless[0] == r {
			useless = useless[1:]
			continue
		}
		literals, holds := rest(old.literals(r), value)
		if !holds {
			t.add(literals, old.glueOf(r))
		}
	}
}

// useless returns the worse half of the clauses that may be forgotten, in their order.
func (t *store) useless() []ref {
	var list []ref
	for r := range t.refs {
		if t.glueOf(r) > goodGlue {
			list = append(list, r)
		}
	}
	// Of two that are as good the older one is forgotten, because the sort is stable.
	slices.SortStableFunc(list, func(a, b ref) int {
		return cmp.Or(cmp.Compare(t.glueOf(b), t.glueOf(a)), cmp.Compare(len(t.literals(b)), len(t.literals(a))))
	})
	list = list[:len(list)/2]
	slices.Sort(list)
	return list
}

// rest returns the literals of a clause that are not false; true: one of them holds.
func rest(literals []literal, value []truth) ([]literal, bool) {
	kept := literals[:0]
	for _, l := range literals {
		switch value[l] {
		case isTrue:
			return nil, true
		case unknown:
			kept = append(kept, l)
		}
	}
	return kept, false
}
