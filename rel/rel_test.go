package rel_test

import (
	"maps"
	"math"
	"math/rand"
	"slices"
	"testing"

	"ordeal/rel"
)

// outside are numbers that are no elements.
var outside = []int{math.MinInt, -65536, -65, -64, -16, -1, 16, 17, 31, 32, 63, 64, 65, 255, 256, 65536, math.MaxInt}

// of has these pairs.
func of(list ...[2]int) rel.Rel {
	var r rel.Rel
	for _, p := range list {
		r[p[0]] |= 1 << p[1]
	}
	return r
}

// check compares a relation with the pairs that it has to have.
func check(t *testing.T, name string, got rel.Rel, want pairs) {
	t.Helper()
	if !maps.Equal(listed(got), want) {
		t.Errorf("%s: %v, want %v", name, listed(got), want)
	}
}

// P16.1: the example of the chapter.
func TestExample(t *testing.T) {
	r := rel.Rel{}.With(0, 1).With(1, 2)
	if !r.Closed().Has(0, 2) || r.Around() {
		t.Errorf("%v: %v, %v", r, r.Closed(), r.Around())
	}
	if list, ok := r.Order(7); !ok || !slices.Equal(list, []int{0, 1, 2}) {
		t.Errorf("Order: %v, %v", list, ok)
	}
	if r = r.With(2, 0); !r.Around() {
		t.Errorf("%v: no cycle", r)
	}
}

// P16.1: bit b of number a is set if a is related to b; a relation is an array, which can be compared and be a key.
func TestStored(t *testing.T) {
	var r rel.Rel = [16]uint16{2: 1<<0 | 1<<15, 15: 1 << 3}
	check(t, "bits", r, pairs{{2, 0}: true, {2, 15}: true, {15, 3}: true})
	if x := (rel.Rel{}).With(15, 3).With(2, 0).With(2, 15); x != r {
		t.Errorf("%v, want %v", x, r)
	}
	if seen := map[rel.Rel]int{r: 1}; seen[of([2]int{2, 0}, [2]int{15, 3}, [2]int{2, 15})] != 1 || rel.Size != 16 {
		t.Errorf("%v", seen)
	}
}

// P16.1: With adds one pair, whichever there are, and leaves the relation on which it is called as it is.
func TestWith(t *testing.T) {
	for _, before := range []rel.Rel{{}, of([2]int{3, 3}, [2]int{0, 15}), rel.Cross(0xffff, 0xffff), rel.Cross(0x5555, 0xff)} {
		kept := before
		for a := range rel.Size {
			for b := range rel.Size {
				want := listed(kept)
				want[[2]int{a, b}] = true
				check(t, "With", before.With(a, b), want)
			}
		}
		if before != kept {
			t.Errorf("%v was changed to %v", kept, before)
		}
	}
}

// P16.1: With adds nothing, and Has is false, if a or b is not 0 to 15.
func TestOutside(t *testing.T) {
	for _, r := range []rel.Rel{{}, of([2]int{0, 1}, [2]int{15, 0}), rel.Cross(0xffff, 0xffff)} {
		for _, n := range outside {
			for _, m := range append([]int{0, 1, 15}, outside...) {
				if r.With(n, m) != r || r.With(m, n) != r {
					t.Errorf("With %d and %d: %v, %v", n, m, r.With(n, m), r.With(m, n))
				}
				if r.Has(n, m) || r.Has(m, n) {
					t.Errorf("%v has %d and %d", r, n, m)
				}
			}
		}
	}
}

// P16.1: union, intersection, difference, inverse and composition of small relations.
func TestSmall(t *testing.T) {
	r, o := of([2]int{0, 1}, [2]int{1, 2}, [2]int{5, 5}), of([2]int{1, 2}, [2]int{2, 15}, [2]int{1, 0})
	check(t, "Or", r.Or(o), pairs{{0, 1}: true, {1, 2}: true, {5, 5}: true, {2, 15}: true, {1, 0}: true})
	check(t, "And", r.And(o), pairs{{1, 2}: true})
	check(t, "Less", r.Less(o), pairs{{0, 1}: true, {5, 5}: true})
	check(t, "Less, in turn", o.Less(r), pairs{{2, 15}: true, {1, 0}: true})
	check(t, "Turned", r.Turned(), pairs{{1, 0}: true, {2, 1}: true, {5, 5}: true})
	check(t, "Then", r.Then(o), pairs{{0, 2}: true, {0, 0}: true, {1, 15}: true})
	check(t, "Then, in turn", o.Then(r), pairs{{1, 1}: true})
	check(t, "Then itself", r.Then(r), pairs{{0, 2}: true, {5, 5}: true})
	if r.Count() != 3 || o.Count() != 3 || (rel.Rel{}).Count() != 0 || rel.Cross(0xffff, 0xffff).Count() != 256 {
		t.Errorf("Count: %d, %d", r.Count(), o.Count())
	}
}

// P16.1: Closed has what can be reached by one step or more, but no element of itself for that alone; Around needs one that reaches itself.
func TestClosed(t *testing.T) {
	for _, c := range []struct {
		r      rel.Rel
		want   pairs
		around bool
	}{
		{rel.Rel{}, pairs{}, false},
		{of([2]int{4, 4}), pairs{{4, 4}: true}, true},
		{of([2]int{15, 0}), pairs{{15, 0}: true}, false},
		{of([2]int{0, 15}, [2]int{15, 0}), pairs{{0, 15}: true, {15, 0}: true, {0, 0}: true, {15, 15}: true}, true},
		{of([2]int{9, 3}, [2]int{3, 6}, [2]int{6, 1}), pairs{{9, 3}: true, {9, 6}: true, {9, 1}: true, {3, 6}: true, {3, 1}: true, {6, 1}: true}, false},
		{of([2]int{0, 1}, [2]int{2, 1}, [2]int{0, 3}), pairs{{0, 1}: true, {2, 1}: true, {0, 3}: true}, false},
		{of([2]int{0, 1}, [2]int{1, 2}, [2]int{2, 1}), pairs{{0, 1}: true, {0, 2}: true, {1, 1}: true, {1, 2}: true, {2, 1}: true, {2, 2}: true}, true},
	} {
		check(t, "Closed", c.r.Closed(), c.want)
		if c.r.Around() != c.around {
			t.Errorf("%v: Around is %v", c.want, c.r.Around())
		}
	}
}

// P16.1: paths through all elements, and a cycle of all of them, in many orders.
func TestLongPaths(t *testing.T) {
	r := rand.New(rand.NewSource(1))
	for range 300 {
		list := r.Perm(rel.Size)
		var path rel.Rel
		for i := range rel.Size - 1 {
			path = path.With(list[i], list[i+1])
		}
		if got := path.Closed(); got != rel.Chain(list) || path.Around() {
			t.Fatalf("%v: %v, %v", list, got, path.Around())
		}
		if got, ok := path.Order(0xffff); !ok || !slices.Equal(got, list) {
			t.Fatalf("%v: %v, %v", list, got, ok)
		}
		cycle := path.With(list[15], list[0])
		if got := cycle.Closed(); got != rel.Cross(0xffff, 0xffff) || !cycle.Around() {
			t.Fatalf("%v: %v, %v", list, got, cycle.Around())
		}
	}
}

// P16.1: Cross relates each of one set to each of the other one, those of both to themselves too.
func TestCross(t *testing.T) {
	check(t, "none", rel.Cross(0, 0xffff), pairs{})
	check(t, "to none", rel.Cross(0xffff, 0), pairs{})
	check(t, "one to one", rel.Cross(1<<15, 1), pairs{{15, 0}: true})
	check(t, "two to two", rel.Cross(3, 6), pairs{{0, 1}: true, {0, 2}: true, {1, 1}: true, {1, 2}: true})
	r := rand.New(rand.NewSource(2))
	for range 2000 {
		from, to := uint16(r.Uint32()), uint16(r.Uint32())
		check(t, "Cross", rel.Cross(from, to), among(func(a, b int) bool { return from>>a&1 == 1 && to>>b&1 == 1 }))
	}
}

// P16.1: Chain relates each element of a list to all that follow it, and leaves the list as it is.
func TestChain(t *testing.T) {
	check(t, "nil", rel.Chain(nil), pairs{})
	check(t, "none", rel.Chain([]int{}), pairs{})
	check(t, "one", rel.Chain([]int{7}), pairs{})
	check(t, "two", rel.Chain([]int{15, 0}), pairs{{15, 0}: true})
	check(t, "four", rel.Chain([]int{3, 1, 2, 0}), pairs{{3, 1}: true, {3, 2}: true, {3, 0}: true, {1, 2}: true, {1, 0}: true, {2, 0}: true})
	check(t, "an element that follows itself", rel.Chain([]int{5, 5}), pairs{{5, 5}: true})
	check(t, "there and back", rel.Chain([]int{1, 2, 1}), pairs{{1, 2}: true, {2, 1}: true, {1, 1}: true})
	r := rand.New(rand.NewSource(3))
	for range 2000 {
		list := make([]int, r.Intn(20))
		want := pairs{}
		for i := range list {
			list[i] = r.Intn(rel.Size)
			for _, a := range list[:i] {
				want[[2]int{a, list[i]}] = true
			}
		}
		before := slices.Clone(list)
		check(t, "Chain", rel.Chain(list), want)
		if !slices.Equal(list, before) {
			t.Fatalf("%v was changed to %v", before, list)
		}
	}
}

// P16.1, K7: elements that there are not do no harm in a list, and a long list ends.
func TestChainOfAnything(t *testing.T) {
	rel.Chain(outside)
	rel.Chain(append(slices.Clone(outside), 0, 15, -1))
	if got := rel.Chain(make([]int, 5000)); got != of([2]int{0, 0}) {
		t.Errorf("%v", got)
	}
}

// P16.1: the elements of a set in an order, the lowest that may come next first; pairs with elements outside the set do not count.
func TestOrder(t *testing.T) {
	for _, c := range []struct {
		name string
		r    rel.Rel
		set  uint16
		want []int
		ok   bool
	}{
		{"no element", rel.Cross(0xffff, 0xffff), 0, nil, true},
		{"no pair", rel.Rel{}, 0xffff, []int{0, 1, 2, 3, 4, 5, 6, 7, 8, 9, 10, 11, 12, 13, 14, 15}, true},
		{"some elements", rel.Rel{}, 1<<15 | 1<<9 | 1<<2, []int{2, 9, 15}, true},
		{"turned around", rel.Chain([]int{5, 3, 1}), 1<<5 | 1<<3 | 1<<1, []int{5, 3, 1}, true},
		{"as soon as it may", of([2]int{7, 0}), 0xff, []int{1, 2, 3, 4, 5, 6, 7, 0}, true},
		{"the lowest again", of([2]int{2, 0}, [2]int{3, 1}), 0xf, []int{2, 0, 3, 1}, true},
		{"not from the end", of([2]int{2, 0}, [2]int{1, 3}), 0xf, []int{1, 2, 0, 3}, true},
		{"itself", of([2]int{4, 4}), 1 << 4, nil, false},
		{"itself, among others", of([2]int{4, 4}), 0xff, nil, false},
		{"itself, outside", of([2]int{4, 4}), 0xf, []int{0, 1, 2, 3}, true},
		{"a cycle", of([2]int{0, 1}, [2]int{1, 2}, [2]int{2, 0}), 7, nil, false},
		{"a cycle behind others", of([2]int{3, 2}, [2]int{2, 3}), 0xf, nil, false},
		{"a cycle that leaves the set", of([2]int{0, 1}, [2]int{1, 2}, [2]int{2, 0}), 5, []int{2, 0}, true},
		{"a path that leaves the set", of([2]int{2, 9}, [2]int{9, 0}), 5, []int{0, 2}, true},
		{"a cycle outside", of([2]int{8, 9}, [2]int{9, 8}), 3, []int{0, 1}, true},
	} {
		if got, ok := c.r.Order(c.set); ok != c.ok || !slices.Equal(got, c.want) {
			t.Errorf("%s: %v, %v, want %v, %v", c.name, got, ok, c.want, c.ok)
		}
	}
}

// P16.1: Order of random relations and sets, against all lists of the elements.
func TestAnyOrder(t *testing.T) {
	r := rand.New(rand.NewSource(4))
	seen := map[bool]int{}
	for range 10000 {
		x, set := some(r), uint16(0)
		for range r.Intn(7) {
			set |= 1 << r.Intn(rel.Size)
		}
		got, ok := x.Order(set)
		want, wantOk := listed(x).firstOrder(nil, members(set))
		if ok != wantOk || !slices.Equal(got, want) {
			t.Fatalf("%v, %x: %v, %v, want %v, %v", x, set, got, ok, want, wantOk)
		}
		seen[ok]++
	}
	if seen[true] < 1000 || seen[false] < 1000 {
		t.Errorf("%v", seen)
	}
}

// P16.1: each function, for random relations, against sets of pairs; no call changes them.
func TestAnyRelations(t *testing.T) {
	r := rand.New(rand.NewSource(5))
	for range 1500 {
		x, y := some(r), some(r)
		beforeX, beforeY := x, y
		p, q := listed(x), listed(y)
		check(t, "Or", x.Or(y), among(func(a, b int) bool { return p.has(a, b) || q.has(a, b) }))
		check(t, "And", x.And(y), among(func(a, b int) bool { return p.has(a, b) && q.has(a, b) }))
		check(t, "Less", x.Less(y), among(func(a, b int) bool { return p.has(a, b) && !q.has(a, b) }))
		check(t, "Turned", x.Turned(), among(func(a, b int) bool { return p.has(b, a) }))
		check(t, "Closed", x.Closed(), among(p.leads))
		check(t, "Then", x.Then(y), among(func(a, c int) bool {
			return slices.ContainsFunc(members(0xffff), func(b int) bool { return p.has(a, b) && q.has(b, c) })
		}))
		if x.Count() != len(p) {
			t.Fatalf("%v: %d pairs", x, x.Count())
		}
		if around := slices.ContainsFunc(members(0xffff), func(a int) bool { return p.leads(a, a) }); x.Around() != around {
			t.Fatalf("%v: Around is %v", x, x.Around())
		}
		x.Order(uint16(r.Uint32()))
		if x != beforeX || y != beforeY {
			t.Fatalf("%v and %v were changed to %v and %v", beforeX, beforeY, x, y)
		}
	}
}

// P16.2: union, intersection, difference and Count are consistent.
func TestSets(t *testing.T) {
	r := rand.New(rand.NewSource(6))
	all := rel.Cross(0xffff, 0xffff)
	for range 3000 {
		x, y := some(r), some(r)
		hold(t, x, y, map[string]bool{
			"the union of both parts": x.And(y).Or(x.Less(y)) == x,
			"no part of both":         x.And(y).And(x.Less(y)) == rel.Rel{},
			"in turn":                 x.Or(y) == y.Or(x) && x.And(y) == y.And(x),
			"the complement":          all.Less(x.Or(y)) == all.Less(x).And(all.Less(y)),
			"counts":                  x.Or(y).Count()+x.And(y).Count() == x.Count()+y.Count(),
			"counts of parts":         x.Less(y).Count() == x.Count()-x.And(y).Count(),
			"itself":                  x.Or(x) == x && x.And(x) == x && x.Less(x) == rel.Rel{},
		})
	}
}

// P16.2: inverse, composition and closure are consistent.
func TestPaths(t *testing.T) {
	r := rand.New(rand.NewSource(7))
	var self rel.Rel
	for a := range rel.Size {
		self = self.With(a, a)
	}
	for range 3000 {
		x, y, z := some(r), some(r), some(r)
		closed := x.Closed()
		hold(t, x, y, map[string]bool{
			"turned twice":          x.Turned().Turned() == x && x.Turned().Count() == x.Count(),
			"turned, of parts":      x.Or(y).Turned() == x.Turned().Or(y.Turned()),
			"turned paths":          x.Then(y).Turned() == y.Turned().Then(x.Turned()),
			"paths of three":        x.Then(y).Then(z) == x.Then(y.Then(z)),
			"paths of parts":        x.Then(y.Or(z)) == x.Then(y).Or(x.Then(z)),
			"paths of no step":      x.Then(self) == x && self.Then(x) == x,
			"closed":                closed.Closed() == closed && closed.Turned() == x.Turned().Closed(),
			"closed by a first one": x.Or(x.Then(closed)) == closed && x.Or(closed.Then(x)) == closed,
			"cycles":                x.Around() == (closed.And(self) != rel.Rel{}) && x.Around() == x.Turned().Around(),
			"crossed":               rel.Cross(x[0], x[1]).Turned() == rel.Cross(x[1], x[0]),
		})
	}
}

// P16.2: there is an Order of all elements exactly if there is no cycle, and the Chain of it contains what is related among its elements.
func TestOrders(t *testing.T) {
	r := rand.New(rand.NewSource(8))
	for range 3000 {
		x, set := some(r), uint16(r.Uint32())
		inside := x.And(rel.Cross(set, set))
		list, ok := x.Order(set)
		chain := rel.Chain(list)
		_, all := x.Order(0xffff)
		hold(t, x, inside, map[string]bool{
			"all":          all == !x.Around(),
			"the set":      ok == !inside.Around(),
			"its elements": !ok || slices.Equal(slices.Sorted(slices.Values(list)), members(set)),
			"its pairs":    !ok || inside.Less(chain) == rel.Rel{},
			"no list":      ok || len(list) == 0,
			"again":        !ok || chain.Closed() == chain && !chain.Around() && chain.Count() == len(list)*(len(list)-1)/2,
		})
		if again, _ := chain.Order(set); ok && !slices.Equal(again, list) {
			t.Errorf("%v, want %v", again, list)
		}
		want := slices.Clone(list)
		clear(list)
		if again, _ := x.Order(set); !slices.Equal(again, want) {
			t.Errorf("%v, and before %v", again, want)
		}
	}
}

// hold fails for each law of two relations that does not hold.
func hold(t *testing.T, x, y rel.Rel, laws map[string]bool) {
	t.Helper()
	for name, holds := range laws {
		if !holds {
			t.Errorf("%s: %v, %v", name, x, y)
		}
	}
}
