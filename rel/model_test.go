package rel_test

import (
	"math/rand"
	"slices"

	"ordeal/rel"
)

// pairs is a relation as the set of its pairs.
type pairs map[[2]int]bool

// listed are the pairs of a relation, as Has tells them.
func listed(r rel.Rel) pairs {
	p := pairs{}
	for a := range rel.Size {
		for b := range rel.Size {
			if r.Has(a, b) {
				p[[2]int{a, b}] = true
			}
		}
	}
	return p
}

// among are the pairs of elements for which is returns true.
func among(is func(a, b int) bool) pairs {
	p := pairs{}
	for a := range rel.Size {
		for b := range rel.Size {
			if is(a, b) {
				p[[2]int{a, b}] = true
			}
		}
	}
	return p
}

// has: whether a is related to b.
func (p pairs) has(a, b int) bool {
	return p[[2]int{a, b}]
}

// reached are the elements to which a leads by at least one step.
func (p pairs) reached(a int) []int {
	var list []int
	for waiting := []int{a}; len(waiting) > 0; waiting = waiting[1:] {
		for b := range rel.Size {
			if p.has(waiting[0], b) && !slices.Contains(list, b) {
				list = append(list, b)
				waiting = append(waiting, b)
			}
		}
	}
	return list
}

// leads: whether a leads to b.
func (p pairs) leads(a, b int) bool {
	return slices.Contains(p.reached(a), b)
}

// isOrder: whether no element of a list is related to one before it, nor to itself.
func (p pairs) isOrder(list []int) bool {
	for i, a := range list {
		for _, b := range list[:i+1] {
			if p.has(a, b) {
				return false
			}
		}
	}
	return true
}

// firstOrder is the lexicographically first of all lists of these elements (ascending) that are an order, by trying them all.
func (p pairs) firstOrder(list, left []int) ([]int, bool) {
	if !p.isOrder(list) {
		return nil, false
	}
	if len(left) == 0 {
		return list, true
	}
	for i, a := range left {
		others := slices.Delete(slices.Clone(left), i, i+1)
		if found, ok := p.firstOrder(append(slices.Clone(list), a), others); ok {
			return found, true
		}
	}
	return nil, false
}

// members are the elements of a set, in ascending order.
func members(set uint16) []int {
	var list []int
	for a := range rel.Size {
		if set>>a&1 == 1 {
			list = append(list, a)
		}
	}
	return list
}

// random is a relation of at most so many random pairs.
func random(r *rand.Rand, count int) rel.Rel {
	var x rel.Rel
	for range r.Intn(count + 1) {
		x[r.Intn(rel.Size)] |= 1 << r.Intn(rel.Size)
	}
	return x
}

// acyclic is one in which no element reaches itself, in most cases.
func acyclic(r *rand.Rand, count int) rel.Rel {
	var x rel.Rel
	at := r.Perm(rel.Size)
	for range r.Intn(count + 1) {
		a, b := r.Intn(rel.Size), r.Intn(rel.Size)
		if at[a] < at[b] || r.Intn(50) == 0 {
			x[a] |= 1 << b
		}
	}
	return x
}

// some is a relation of one of these kinds: few pairs, many, nearly all, or without a cycle.
func some(r *rand.Rand) rel.Rel {
	switch r.Intn(5) {
	case 0:
		return random(r, 6)
	case 1:
		return random(r, 20)
	case 2:
		return random(r, 1000)
	case 3:
		return acyclic(r, 20)
	}
	return acyclic(r, 100)
}
