package arena_test

import (
	"math"
	"slices"
	"testing"

	"tagcache/api"
	"tagcache/arena"
)

// ref is a reference.
func ref(n, gen int) api.Ref { return api.Ref{N: n, Gen: gen} }

// refs returns the references of some slots, all with the generation 1.
func refs(numbers ...int) []api.Ref {
	var l []api.Ref
	for _, n := range numbers {
		l = append(l, ref(n, 1))
	}
	return l
}

// open returns a new arena.
func open(t *testing.T, most int) *arena.Arena {
	t.Helper()
	a, e := arena.New(most)
	if a == nil || e != api.OK {
		t.Fatalf("New(%d) = %v, %d", most, a, e)
	}
	return a
}

// take takes slots and compares their references with what they should be.
func take(t *testing.T, a *arena.Arena, want ...api.Ref) {
	t.Helper()
	for i, w := range want {
		if r, e := a.Take(); r != w || e != api.OK {
			t.Fatalf("Take %d of %v = %v, %d", i, want, r, e)
		}
	}
}

// free frees slots that are taken.
func free(t *testing.T, a *arena.Arena, l ...api.Ref) {
	t.Helper()
	for i, r := range l {
		if e := a.Free(r); e != api.OK {
			t.Fatalf("Free %d of %v = %d", i, l, e)
		}
	}
}

// checkTakeFails checks that no slot can be taken.
func checkTakeFails(t *testing.T, a *arena.Arena, want api.Errno) {
	t.Helper()
	if r, e := a.Take(); r != ref(0, 0) || e != want {
		t.Fatalf("Take = %v, %d, want %d", r, e, want)
	}
}

// checkFreeFails checks that a slot cannot be freed, and is not there.
func checkFreeFails(t *testing.T, a *arena.Arena, r api.Ref, want api.Errno) {
	t.Helper()
	if e := a.Free(r); e != want || a.Has(r) {
		t.Fatalf("Free(%v) = %d, Has = %t, want %d", r, e, a.Has(r), want)
	}
}

// checkAt compares what At returns with what it should be.
func checkAt(t *testing.T, a *arena.Arena, n int, want api.Ref, e api.Errno) {
	t.Helper()
	if r, err := a.At(n); r != want || err != e {
		t.Fatalf("At(%d) = %v, %d, want %v, %d", n, r, err, want, e)
	}
}

// checkState compares what an arena says of itself with what it should be: how many slots were made, and which ones are taken.
func checkState(t *testing.T, a *arena.Arena, made int, taken ...api.Ref) {
	t.Helper()
	if a.Len() != len(taken) || a.Made() != made || !slices.Equal(a.Refs(), taken) {
		t.Fatalf("Len, Made, Refs = %d, %d, %v, want %d, %d, %v", a.Len(), a.Made(), a.Refs(), len(taken), made, taken)
	}
	for _, r := range taken {
		checkAt(t, a, r.N, r, api.OK)
		if !a.Has(r) {
			t.Fatalf("Has(%v) = false", r)
		}
	}
}

// plain is an arena after the definition: the generations of the slots that were made, and the free slots in their order.
type plain struct {
	most int
	gens []int
	free []int
}

// take takes a slot: the first free one, or else a new one.
func (p *plain) take() (api.Ref, api.Errno) {
	if len(p.free) > 0 {
		n := p.free[0]
		p.free = p.free[1:]
		return ref(n, p.gens[n]), api.OK
	}
	if len(p.gens) == p.most {
		return ref(0, 0), api.ErrFull
	}
	p.gens = append(p.gens, 1)
	return ref(len(p.gens)-1, 1), api.OK
}

// freeSlot frees a slot.
func (p *plain) freeSlot(r api.Ref) api.Errno {
	if !p.has(r) {
		return api.ErrNone
	}
	p.gens[r.N]++
	p.free = slices.Insert(slices.Clone(p.free), 0, r.N)
	return api.OK
}

// at returns the slot with a number.
func (p *plain) at(n int) (api.Ref, api.Errno) {
	if n < 0 || n >= len(p.gens) || slices.Contains(p.free, n) {
		return ref(0, 0), api.ErrNone
	}
	return ref(n, p.gens[n]), api.OK
}

// has reports whether a slot is taken.
func (p *plain) has(r api.Ref) bool {
	there, e := p.at(r.N)
	return e == api.OK && there == r
}

// refs returns the slots that are taken.
func (p *plain) refs() (l []api.Ref) {
	for n := range p.gens {
		if r, e := p.at(n); e == api.OK {
			l = append(l, r)
		}
	}
	return l
}

// copy returns a copy.
func (p *plain) copy() *plain {
	return &plain{p.most, slices.Clone(p.gens), slices.Clone(p.free)}
}

// around returns references of all slots that were made and of those beside them, with the generations that were and those beside them.
func (p *plain) around() (l []api.Ref) {
	for n := -1; n <= len(p.gens); n++ {
		for gen := -1; gen <= slices.Max(append([]int{1}, p.gens...))+1; gen++ {
			l = append(l, ref(n, gen))
		}
	}
	return l
}

// checkLike compares an arena with one after the definition.
func checkLike(t *testing.T, a *arena.Arena, p *plain) {
	t.Helper()
	checkState(t, a, len(p.gens), p.refs()...)
	for n := -1; n <= len(p.gens); n++ {
		r, e := p.at(n)
		checkAt(t, a, n, r, e)
	}
	for _, r := range p.around() {
		if a.Has(r) != p.has(r) {
			t.Fatalf("Has(%v) = %t, %v", r, a.Has(r), p)
		}
	}
}

// P9.1: the maximums that are allowed, of which each is really one.
func TestNew(t *testing.T) {
	for _, most := range []int{1, 2, 3, 7, 8, 9, 1000, 1 << 16, arena.MaxSlots - 1, arena.MaxSlots} {
		a := open(t, most)
		checkState(t, a, 0)
		checkAt(t, a, 0, ref(0, 0), api.ErrNone)
		checkFreeFails(t, a, ref(0, 1), api.ErrNone)
		for n := range most {
			if r, e := a.Take(); r != ref(n, 1) || e != api.OK {
				t.Fatalf("%d: Take = %v, %d, want the slot %d", most, r, e, n)
			}
		}
		checkTakeFails(t, a, api.ErrFull)
		if a.Len() != most || a.Made() != most {
			t.Errorf("%d: Len, Made = %d, %d", most, a.Len(), a.Made())
		}
	}
}

// P9.1: the maximums that are not allowed, such as are in fewer bits too.
func TestNewErrors(t *testing.T) {
	if arena.MaxSlots != 1048576 {
		t.Errorf("MaxSlots = %d", arena.MaxSlots)
	}
	for _, most := range []int{0, -1, -2, -arena.MaxSlots, math.MinInt, math.MinInt + 1, arena.MaxSlots + 1, arena.MaxSlots * 2, 1<<32 + 1, math.MaxInt} {
		if a, e := arena.New(most); a != nil || e != api.ErrArg {
			t.Errorf("New(%d) = %v, %d", most, a, e)
		}
	}
}

// P9.1, P9.2, P9.3: the examples of the chapter.
func TestExamples(t *testing.T) {
	a := open(t, 2)
	take(t, a, ref(0, 1), ref(1, 1))
	checkTakeFails(t, a, api.ErrFull)
	checkState(t, a, 2, refs(0, 1)...)

	free(t, a, ref(0, 1))
	checkFreeFails(t, a, ref(0, 1), api.ErrNone)
	checkAt(t, a, 0, ref(0, 0), api.ErrNone)
	checkAt(t, a, 1, ref(1, 1), api.OK)
	checkState(t, a, 2, ref(1, 1))

	take(t, a, ref(0, 2))
	if a.Has(ref(0, 1)) || !a.Has(ref(0, 2)) {
		t.Error("Has after the slot was taken again")
	}
	free(t, a, ref(1, 1), ref(0, 2))
	take(t, a, ref(0, 3), ref(1, 2))
	checkAt(t, a, -1, ref(0, 0), api.ErrNone)
}

// P9.1: the slots of all orders in which they may be freed are taken backwards, and only then new ones are made.
func TestLastFreedComesFirst(t *testing.T) {
	var try func(order []int)
	try = func(order []int) {
		a := open(t, 6)
		take(t, a, refs(0, 1, 2, 3)...)
		for _, n := range order {
			free(t, a, ref(n, 1))
		}
		for _, n := range slices.Backward(order) {
			take(t, a, ref(n, 2))
			if a.Made() != 4 {
				t.Fatalf("%v: Made = %d while slots are free", order, a.Made())
			}
		}
		take(t, a, ref(4, 1), ref(5, 1))
		checkTakeFails(t, a, api.ErrFull)
		for n := range 4 {
			if !slices.Contains(order, n) {
				try(append(slices.Clone(order), n))
			}
		}
	}
	try(nil)
}

// P9.1: slots that are freed and taken in turn.
func TestFreeAndTakeInTurn(t *testing.T) {
	a := open(t, 9)
	take(t, a, refs(0, 1, 2)...)
	free(t, a, ref(1, 1), ref(0, 1))
	take(t, a, ref(0, 2))
	free(t, a, ref(2, 1))
	checkState(t, a, 3, ref(0, 2))
	take(t, a, ref(2, 2), ref(1, 2), ref(3, 1))
	free(t, a, ref(1, 2), ref(3, 1), ref(0, 2))
	checkState(t, a, 4, ref(2, 2))
	take(t, a, ref(0, 3), ref(3, 2), ref(1, 3), ref(4, 1))
	checkState(t, a, 5, ref(0, 3), ref(1, 3), ref(2, 2), ref(3, 2), ref(4, 1))
}

// P9.1: what is not taken, or not with this generation, cannot be freed, and nothing changes.
func TestFreeErrors(t *testing.T) {
	a := open(t, 5)
	take(t, a, refs(0, 1, 2, 3)...)
	free(t, a, ref(3, 1), ref(1, 1))
	take(t, a, ref(1, 2))
	free(t, a, ref(1, 2))
	take(t, a, ref(1, 3))
	for _, r := range []api.Ref{
		ref(0, 0), ref(0, -1), ref(0, 2), ref(0, math.MaxInt), ref(0, math.MinInt), ref(0, 1<<32+1), // taken, with other generations
		ref(1, 1), ref(1, 2), ref(1, 4), ref(1, 0), // taken again
		ref(3, 1), ref(3, 2), ref(3, 0), ref(3, 3), // free
		ref(4, 0), ref(4, 1), // not made yet
		ref(5, 1), ref(6, 1), ref(-1, 1), ref(-1, 0), ref(-5, 1), ref(1<<32, 1), ref(math.MaxInt, 1), ref(math.MinInt, 1), // no slots of it at all
	} {
		checkFreeFails(t, a, r, api.ErrNone)
		checkState(t, a, 4, ref(0, 1), ref(1, 3), ref(2, 1))
	}
	take(t, a, ref(3, 2), ref(4, 1))
	checkTakeFails(t, a, api.ErrFull)
}

// P9.1, P9.3: Take of a full arena changes nothing, and the next slot that is freed can be taken.
func TestFull(t *testing.T) {
	for _, most := range []int{1, 2, 3, 8, 100} {
		a := open(t, most)
		var taken []api.Ref
		for n := range most {
			take(t, a, ref(n, 1))
			taken = append(taken, ref(n, 1))
		}
		for n := range most {
			for range 3 {
				checkTakeFails(t, a, api.ErrFull)
				checkState(t, a, most, taken...)
			}
			free(t, a, taken[n])
			if a.Len() != most-1 || a.Made() != most {
				t.Fatalf("Len, Made = %d, %d", a.Len(), a.Made())
			}
			taken[n].Gen++
			take(t, a, taken[n])
		}
	}
}

// P9.2: what is there, and what is not, by references and by numbers.
func TestHasAndAt(t *testing.T) {
	a := open(t, 4)
	take(t, a, refs(0, 1, 2)...)
	free(t, a, ref(0, 1), ref(2, 1))
	take(t, a, ref(2, 2))
	for _, c := range []struct {
		n    int
		want api.Ref
		e    api.Errno
	}{
		{1, ref(1, 1), api.OK}, {2, ref(2, 2), api.OK},
		{0, ref(0, 0), api.ErrNone}, {3, ref(0, 0), api.ErrNone}, {4, ref(0, 0), api.ErrNone}, {-1, ref(0, 0), api.ErrNone}, {-2, ref(0, 0), api.ErrNone},
		{1<<32 + 1, ref(0, 0), api.ErrNone}, {math.MaxInt, ref(0, 0), api.ErrNone}, {math.MinInt, ref(0, 0), api.ErrNone},
	} {
		checkAt(t, a, c.n, c.want, c.e)
		for _, gen := range []int{math.MinInt, -1, 0, 1, 2, 3, 1<<32 + 1, math.MaxInt} {
			if r := ref(c.n, gen); a.Has(r) != (c.e == api.OK && r == c.want) {
				t.Errorf("Has(%v) = %t", r, a.Has(r))
			}
		}
	}
	checkState(t, a, 3, ref(1, 1), ref(2, 2))
}

// P9.1, P9.2, P9.3: nil and zero arenas, whatever the arguments are.
func TestNoArena(t *testing.T) {
	var none *arena.Arena
	for i, a := range []*arena.Arena{none, {}} {
		for range 2 {
			checkTakeFails(t, a, api.ErrNil)
			for _, n := range []int{0, 1, -1, math.MaxInt, math.MinInt} {
				checkAt(t, a, n, ref(0, 0), api.ErrNil)
				for _, gen := range []int{0, 1, -1} {
					checkFreeFails(t, a, ref(n, gen), api.ErrNil)
				}
			}
			checkState(t, a, 0)
			if a.Copy() != nil {
				t.Errorf("case %d: there is a copy", i)
			}
		}
	}
}

// P9.3: the references come by their numbers, in whatever order their slots were taken and freed.
func TestRefs(t *testing.T) {
	for set := range 1 << 6 {
		for _, backward := range []bool{false, true} {
			a := open(t, 6)
			take(t, a, refs(0, 1, 2, 3, 4, 5)...)
			var want []api.Ref
			for n := range 6 {
				if set>>n&1 == 0 {
					want = append(want, ref(n, 1))
				}
			}
			for i := range 6 {
				n := i
				if backward {
					n = 5 - i
				}
				if set>>n&1 == 1 {
					free(t, a, ref(n, 1))
				}
			}
			checkState(t, a, 6, want...)
		}
	}
}

// P9.3: references that were returned are not those of the arena, and do not follow it.
func TestRefsShareNothing(t *testing.T) {
	a := open(t, 4)
	take(t, a, refs(0, 1, 2)...)
	first, second := a.Refs(), a.Refs()
	_ = append(first, ref(9, 9))
	for i := range first {
		first[i] = ref(7, 7)
	}
	checkState(t, a, 3, refs(0, 1, 2)...)
	free(t, a, ref(1, 1))
	if !slices.Equal(second, refs(0, 1, 2)) {
		t.Errorf("the references have become %v", second)
	}
	checkState(t, a, 3, refs(0, 2)...)
	take(t, a, ref(1, 2), ref(3, 1))
}

// P9.3: a copy goes on where the arena was, with its maximum, its generations and the order of its free slots, and neither of them changes the other one.
func TestCopy(t *testing.T) {
	a := open(t, 4)
	take(t, a, refs(0, 1, 2)...)
	free(t, a, ref(0, 1), ref(2, 1))
	c := a.Copy()
	other := c.Copy()

	take(t, a, ref(2, 2), ref(0, 2), ref(3, 1))
	checkTakeFails(t, a, api.ErrFull)
	free(t, a, ref(1, 1))
	checkState(t, c, 3, ref(1, 1))

	free(t, c, ref(1, 1))
	take(t, c, ref(1, 2), ref(2, 2))
	checkState(t, a, 4, ref(0, 2), ref(2, 2), ref(3, 1))
	checkState(t, c, 3, ref(1, 2), ref(2, 2))
	checkState(t, other, 3, ref(1, 1))
	take(t, other, ref(2, 2), ref(0, 2), ref(3, 1))
	checkTakeFails(t, other, api.ErrFull)
	checkState(t, c, 3, ref(1, 2), ref(2, 2))
}

// P9.3: copies of new arenas and of full ones.
func TestCopyHasMaximum(t *testing.T) {
	for _, most := range []int{1, 2, 5, 64} {
		a := open(t, most)
		c := a.Copy()
		checkState(t, c, 0)
		for n := range most {
			take(t, c, ref(n, 1))
		}
		checkState(t, a, 0)
		for _, full := range []*arena.Arena{c, c.Copy()} {
			checkTakeFails(t, full, api.ErrFull)
		}
	}
}

// P9.3: an arena and its copies have no memory in common, however much room there is for more: slots of each are freed, taken and made in turn.
func TestCopySharesNothing(t *testing.T) {
	for n := range 40 {
		a := open(t, 60)
		for i := range n {
			take(t, a, ref(i, 1))
		}
		for i := range n / 2 {
			free(t, a, ref(i, 1))
		}
		c := a.Copy()
		all := []*arena.Arena{a, c, c.Copy()}
		// each frees others, so their free slots are others
		for i := n / 2; i < n; i++ {
			free(t, all[i%3], ref(i, 1))
		}
		for k, x := range all {
			for i := n - 1; i >= n/2; i-- {
				if i%3 == k {
					take(t, x, ref(i, 2))
				}
			}
			for i := n/2 - 1; i >= 0; i-- {
				take(t, x, ref(i, 2))
			}
		}
		for i := n; i < 60; i++ {
			for _, x := range all {
				take(t, x, ref(i, 1))
			}
		}
		for k, x := range all {
			var want []api.Ref
			for i := range 60 {
				gen := 1
				if i < n/2 || i < n && i%3 == k {
					gen = 2
				}
				want = append(want, ref(i, gen))
			}
			checkState(t, x, 60, want...)
			checkTakeFails(t, x, api.ErrFull)
		}
	}
}

// P9.1, P9.2, P9.3: all ways of taking and freeing a few slots, after the definition, going on with copies; what is an error changes nothing, and what is done with a copy does not change the arena.
func TestAfterDefinition(t *testing.T) {
	var goOn func(a *arena.Arena, p *plain, steps int)
	goOn = func(a *arena.Arena, p *plain, steps int) {
		if steps == 0 {
			return
		}
		for _, r := range append(p.around(), ref(0, 0)) {
			c, q := a.Copy(), p.copy()
			want := q.freeSlot(r)
			if e := c.Free(r); e != want {
				t.Fatalf("%v: Free(%v) = %d, want %d", p, r, e, want)
			}
			checkLike(t, c, q)
			if want == api.OK {
				goOn(c, q, steps-1)
			}
		}
		c, q := a.Copy(), p.copy()
		want, e := q.take()
		if r, err := c.Take(); r != want || err != e {
			t.Fatalf("%v: Take = %v, %d, want %v, %d", p, r, err, want, e)
		}
		checkLike(t, c, q)
		if e == api.OK {
			goOn(c, q, steps-1)
		}
		checkLike(t, a, p)
	}
	for most := 1; most <= 4; most++ {
		goOn(open(t, most), &plain{most: most}, 9)
	}
}

// numbers returns numbers that look as if they had no rule, but are the same ones in each run.
func numbers(seed uint64) func(below int) int {
	return func(below int) int {
		seed = seed*6364136223846793005 + 1442695040888963407
		return int(seed>>33) % below
	}
}

// P9.1, P9.2, P9.3: long runs of one arena, without copies, after the definition.
func TestLongRuns(t *testing.T) {
	for seed := range uint64(60) {
		next := numbers(seed)
		most := 1 + next(12)
		a, p := open(t, most), &plain{most: most}
		for range 300 {
			if next(5) < 3 {
				want, e := p.take()
				if r, err := a.Take(); r != want || err != e {
					t.Fatalf("seed %d: Take = %v, %d, want %v, %d", seed, r, err, want, e)
				}
			} else {
				r := ref(next(most+1), 0)
				if r.N < len(p.gens) {
					r.Gen = p.gens[r.N] - next(4)/3
				}
				if e, want := a.Free(r), p.freeSlot(r); e != want {
					t.Fatalf("seed %d: Free(%v) = %d, want %d", seed, r, e, want)
				}
			}
			checkState(t, a, len(p.gens), p.refs()...)
		}
		checkLike(t, a, p)
	}
}

// P9.4: no reference is returned twice, each is there from Take to Free and never again, as many can be taken as the maximum says, and no slot is made as long as one is free.
func TestConsequences(t *testing.T) {
	for seed := range uint64(20) {
		next := numbers(seed)
		most := 1 + next(30)
		a := open(t, most)
		var taken []api.Ref
		gone := map[api.Ref]bool{} // all that were returned: true for those that were freed
		for step := range 2000 {
			if step/most%2 == 0 || len(taken) == 0 || next(3) == 0 {
				made := a.Made()
				r, e := a.Take()
				if e != api.OK {
					if e != api.ErrFull || len(taken) != most {
						t.Fatalf("Take = %d, while %d of %d slots are taken", e, len(taken), most)
					}
					continue
				}
				if _, twice := gone[r]; twice || len(taken) == most {
					t.Fatalf("Take = %v, while %d of %d slots are taken", r, len(taken), most)
				}
				if a.Made() != max(made, len(taken)+1) {
					t.Fatalf("Made = %d after %d, while %d slots were taken", a.Made(), made, len(taken))
				}
				gone[r], taken = false, append(taken, r)
			} else {
				i := next(len(taken))
				free(t, a, taken[i])
				gone[taken[i]] = true
				taken = slices.Delete(taken, i, i+1)
			}
			for r, was := range gone {
				if a.Has(r) == was {
					t.Fatalf("Has(%v) = %t", r, a.Has(r))
				}
			}
		}
		for r, was := range gone {
			if was {
				checkFreeFails(t, a, r, api.ErrNone)
			}
		}
		free(t, a, taken...)
		for range most {
			if r, e := a.Take(); e != api.OK || gone[r] {
				t.Fatalf("Take of all slots again = %v, %d", r, e)
			}
		}
		checkTakeFails(t, a, api.ErrFull)
	}
}

// P9.4: one slot that is taken very often has always the next generation.
func TestManyGenerations(t *testing.T) {
	a := open(t, 2)
	take(t, a, ref(0, 1))
	const times = 200_000
	for gen := 1; gen <= times; gen++ {
		r, e := a.Take()
		if r != ref(1, gen) || e != api.OK || a.Has(ref(1, gen-1)) || a.Has(ref(1, gen+1)) {
			t.Fatalf("Take = %v, %d, want the generation %d", r, e, gen)
		}
		free(t, a, r)
	}
	checkState(t, a, 2, ref(0, 1))
	for _, gen := range []int{1, 255, 256, 257, 65535, 65536, 65537, times, times + 1} {
		checkFreeFails(t, a, ref(1, gen), api.ErrNone)
	}
	take(t, a, ref(1, times+1))
}

// P1, P9.1, P9.3: as many slots as there may be, in time that grows as they do.
func TestMany(t *testing.T) {
	a := open(t, arena.MaxSlots)
	for n := range arena.MaxSlots {
		take(t, a, ref(n, 1))
	}
	checkTakeFails(t, a, api.ErrFull)
	for n := range arena.MaxSlots {
		free(t, a, ref(n, 1))
	}
	checkState(t, a, arena.MaxSlots)
	c := a.Copy()
	for n := arena.MaxSlots - 1; n >= 0; n-- {
		take(t, a, ref(n, 2))
	}
	checkTakeFails(t, a, api.ErrFull)
	checkState(t, c, arena.MaxSlots)
	for n, r := range a.Refs() {
		if r != ref(n, 2) {
			t.Fatalf("the reference %d is %v", n, r)
		}
	}
	take(t, c, ref(arena.MaxSlots-1, 2))
}

// P9.4: arenas with which the same was done say the same, whatever was done with others.
func TestAgain(t *testing.T) {
	for range 3 {
		a, b := open(t, 3), open(t, 3)
		take(t, a, refs(0, 1, 2)...)
		take(t, b, refs(0)...)
		free(t, a, refs(1, 0)...)
		take(t, b, refs(1)...)
		take(t, a, ref(0, 2), ref(1, 2))
		checkState(t, b, 2, refs(0, 1)...)
		checkState(t, a, 3, ref(0, 2), ref(1, 2), ref(2, 1))
	}
}
