package recent_test

import (
	"iter"
	"math"
	"slices"
	"testing"

	"tagcache/api"
	"tagcache/arena"
	"tagcache/recent"
)

// last is the greatest number of a slot.
const last = arena.MaxSlots - 1

// noSlots returns numbers of no slot, such as are one in fewer bits too.
func noSlots() []int {
	return []int{-1, -2, -last, -last - 1, -last - 2, -1 << 32, -1<<32 + 5, math.MinInt, math.MinInt + 5, last + 1, last + 2, last + 6, 2 * last, 1<<31 - 1, 1 << 31, 1 << 32, 1<<32 + 5, math.MaxInt - 1, math.MaxInt}
}

// order returns an order to which some slots were added.
func order(t *testing.T, slots ...int) *recent.Recent {
	t.Helper()
	r := recent.New()
	add(t, r, slots...)
	return r
}

// each calls a method, which must have no error, with some slots.
func each(t *testing.T, name string, f func(int) api.Errno, slots []int) {
	t.Helper()
	for i, n := range slots {
		if e := f(n); e != api.OK {
			t.Fatalf("%s %d of %v = %d", name, i, slots, e)
		}
	}
}

// add adds slots that are not there.
func add(t *testing.T, r *recent.Recent, slots ...int) {
	t.Helper()
	each(t, "Add", r.Add, slots)
}

// use uses slots that are there.
func use(t *testing.T, r *recent.Recent, slots ...int) {
	t.Helper()
	each(t, "Use", r.Use, slots)
}

// remove removes slots that are there.
func remove(t *testing.T, r *recent.Recent, slots ...int) {
	t.Helper()
	each(t, "Remove", r.Remove, slots)
}

// checkOldest compares what Oldest returns with what it should be.
func checkOldest(t *testing.T, r *recent.Recent, want int, e api.Errno) {
	t.Helper()
	if n, err := r.Oldest(); n != want || err != e {
		t.Fatalf("Oldest = %d, %d, want %d, %d", n, err, want, e)
	}
}

// checkNext compares what Next returns with what it should be.
func checkNext(t *testing.T, r *recent.Recent, n, want int, e api.Errno) {
	t.Helper()
	if next, err := r.Next(n); next != want || err != e {
		t.Fatalf("Next(%d) = %d, %d, want %d, %d", n, next, err, want, e)
	}
}

// checkNo checks that a number is not that of a slot that is there: it cannot be used, removed or gone on from.
func checkNo(t *testing.T, r *recent.Recent, n int, want api.Errno) {
	t.Helper()
	if e, f := r.Use(n), r.Remove(n); e != want || f != want || r.Has(n) {
		t.Fatalf("%d: Use, Remove, Has = %d, %d, %t, want %d", n, e, f, r.Has(n), want)
	}
	checkNext(t, r, n, 0, want)
}

// checkAddFails checks that a slot cannot be added.
func checkAddFails(t *testing.T, r *recent.Recent, n int, want api.Errno) {
	t.Helper()
	if e := r.Add(n); e != want {
		t.Fatalf("Add(%d) = %d, want %d", n, e, want)
	}
}

// checkSeq compares what an iterator goes over with what it should be.
func checkSeq(t *testing.T, seq iter.Seq[int], want []int) {
	t.Helper()
	if l := slices.Collect(seq); !slices.Equal(l, want) {
		t.Fatalf("the iterator goes over %v, want %v", l, want)
	}
}

// checkOrder compares all that an order says of itself with what it should be.
func checkOrder(t *testing.T, r *recent.Recent, want ...int) {
	t.Helper()
	checkSeq(t, r.All(), want)
	if r.Len() != len(want) {
		t.Fatalf("Len = %d, want that of %v", r.Len(), want)
	}
	if len(want) == 0 {
		checkOldest(t, r, 0, api.ErrNone)
		return
	}
	checkOldest(t, r, want[0], api.OK)
	for i, n := range want {
		if !r.Has(n) {
			t.Fatalf("Has(%d) = false, want %v", n, want)
		}
		if i == len(want)-1 {
			checkNext(t, r, n, 0, api.ErrEnd)
		} else {
			checkNext(t, r, n, want[i+1], api.OK)
		}
	}
}

// plain is an order after the definition: its slots, one after the other.
type plain []int

// add adds a slot at the end.
func (p *plain) add(n int) api.Errno {
	switch {
	case n < 0 || n > last:
		return api.ErrArg
	case slices.Contains(*p, n):
		return api.ErrExists
	}
	*p = append(slices.Clone(*p), n)
	return api.OK
}

// remove takes a slot out.
func (p *plain) remove(n int) api.Errno {
	i := slices.Index(*p, n)
	switch {
	case n < 0 || n > last:
		return api.ErrArg
	case i < 0:
		return api.ErrNone
	}
	*p = slices.Concat((*p)[:i], (*p)[i+1:])
	return api.OK
}

// use moves a slot to the end.
func (p *plain) use(n int) api.Errno {
	if e := p.remove(n); e != api.OK {
		return e
	}
	return p.add(n)
}

// numbers returns numbers that look as if they had no rule, but are the same ones in each run.
func numbers(seed uint64) func(below int) int {
	return func(below int) int {
		seed = seed*6364136223846793005 + 1442695040888963407
		return int(seed>>33) % below
	}
}

// P11.1, P11.2, P11.3: the examples of the chapter.
func TestExamples(t *testing.T) {
	r := order(t, 5, 2, 9)
	use(t, r, 5)
	checkSeq(t, r.All(), []int{2, 9, 5})

	checkOldest(t, r, 2, api.OK)
	checkNext(t, r, 2, 9, api.OK)
	checkNext(t, r, 5, 0, api.ErrEnd)
	checkAddFails(t, r, 9, api.ErrExists)
	if e := r.Use(7); e != api.ErrNone {
		t.Errorf("Use(7) = %d", e)
	}
	remove(t, r, 9)
	if e := r.Remove(9); e != api.ErrNone {
		t.Errorf("Remove(9) = %d", e)
	}
	checkSeq(t, r.All(), []int{2, 5})
	if r.Len() != 2 || r.Has(9) {
		t.Errorf("Len, Has(9) = %d, %t", r.Len(), r.Has(9))
	}

	checkAddFails(t, r, -1, api.ErrArg)
	checkAddFails(t, r, 1048576, api.ErrArg)
	add(t, r, 1048575)
	checkOldest(t, recent.New(), 0, api.ErrNone)
}

// P11.1, P11.2, P11.3: a new order is empty, each time.
func TestNew(t *testing.T) {
	for range 3 {
		r := recent.New()
		if r == nil {
			t.Fatal("New = nil")
		}
		checkOrder(t, r)
		for _, n := range []int{0, 1, 7, last} {
			checkNo(t, r, n, api.ErrNone)
		}
		checkOrder(t, r.Copy())
		add(t, r, 3, 0)
		checkOrder(t, r, 3, 0)
	}
}

// P11.1: slots come in the order in which they were added, whatever their numbers are.
func TestAdd(t *testing.T) {
	for _, slots := range [][]int{{0}, {last}, {0, 1, 2}, {2, 1, 0}, {last, 0}, {0, last}, {7, last, 3, 0, last - 1, 4, 1}, {1 << 16, 0, 1 << 8, 1<<16 + 1, 1<<16 - 1}} {
		r := recent.New()
		for i, n := range slots {
			checkNo(t, r, n, api.ErrNone)
			add(t, r, n)
			checkOrder(t, r, slots[:i+1]...)
		}
	}
}

// P11.1, P11.2, P11.3: a slot at each place of orders of each length is moved to the end, the others keep their order.
func TestUse(t *testing.T) {
	slots := []int{6, 0, last, 3, 1, 9}
	for size := 1; size <= len(slots); size++ {
		for i, n := range slots[:size] {
			r := order(t, slots[:size]...)
			use(t, r, n)
			checkOrder(t, r, append(slices.Concat(slots[:i], slots[i+1:size]), n)...)
		}
	}
}

// P11.1, P11.2, P11.3: a slot at each place of orders of each length is taken out, the others keep their order; added again it comes last.
func TestRemove(t *testing.T) {
	slots := []int{6, 0, last, 3, 1, 9}
	for size := 1; size <= len(slots); size++ {
		for i, n := range slots[:size] {
			r := order(t, slots[:size]...)
			remove(t, r, n)
			rest := slices.Concat(slots[:i], slots[i+1:size])
			checkOrder(t, r, rest...)
			checkNo(t, r, n, api.ErrNone)
			checkOrder(t, r, rest...)
			add(t, r, n)
			checkOrder(t, r, append(rest, n)...)
		}
	}
}

// P11.1: orders that have become empty can be filled again.
func TestEmptyAgain(t *testing.T) {
	r := recent.New()
	for round := range 4 {
		add(t, r, 4, round, 8)
		use(t, r, 4)
		checkOrder(t, r, round, 8, 4)
		remove(t, r, 8, 4, round)
		checkOrder(t, r)
		checkNo(t, r, 4, api.ErrNone)
	}
}

// P11.1, P11.2: numbers of no slot, in orders without slots, with some and with those at both ends; nothing changes.
func TestNoSlots(t *testing.T) {
	for _, slots := range [][]int{nil, {5}, {0, last}, {last, 5, 0, 1, last - 1}} {
		r := order(t, slots...)
		for _, n := range noSlots() {
			checkAddFails(t, r, n, api.ErrArg)
			checkNo(t, r, n, api.ErrArg)
			checkOrder(t, r, slots...)
		}
	}
}

// P11.1: both ends of the numbers of slots.
func TestEnds(t *testing.T) {
	if last != 1048575 {
		t.Errorf("the last slot is %d", last)
	}
	r := recent.New()
	for _, n := range []int{0, last} {
		checkNo(t, r, n, api.ErrNone)
		add(t, r, n)
	}
	use(t, r, 0)
	checkOrder(t, r, last, 0)
	use(t, r, last)
	checkOrder(t, r, 0, last)
	remove(t, r, 0)
	checkOrder(t, r, last)
	checkNo(t, r, 0, api.ErrNone)
	remove(t, r, last)
	checkOrder(t, r)
	checkNo(t, r, last, api.ErrNone)
}

// P11.1, P11.2: slots that are there cannot be added, slots that are not there cannot be used, removed or gone on from, and nothing changes.
func TestThereAndNotThere(t *testing.T) {
	r := order(t, 4, 0, 7, last)
	remove(t, r, 7)
	for range 2 {
		for _, n := range []int{4, 0, last} {
			checkAddFails(t, r, n, api.ErrExists)
			checkOrder(t, r, 4, 0, last)
		}
		for _, n := range []int{1, 3, 5, 7, last - 1, 1 << 16} {
			checkNo(t, r, n, api.ErrNone)
			checkOrder(t, r, 4, 0, last)
		}
	}
}

// P11.1, P11.2, P11.3: nil and zero orders, whatever the arguments are.
func TestNoOrder(t *testing.T) {
	var none *recent.Recent
	for i, r := range []*recent.Recent{none, {}} {
		for range 2 {
			for _, n := range append(noSlots(), 0, 1, 5, last) {
				checkAddFails(t, r, n, api.ErrNil)
				checkNo(t, r, n, api.ErrNil)
			}
			checkOldest(t, r, 0, api.ErrNil)
			if r.Len() != 0 || r.Copy() != nil {
				t.Errorf("case %d: Len = %d, or there is a copy", i, r.Len())
			}
			seq := r.All()
			if seq == nil {
				t.Fatalf("case %d: All = nil", i)
			}
			for range 2 {
				checkSeq(t, seq, nil)
			}
		}
	}
}

// P11.3: a loop may stop after each slot, and the iterator may be used again, also within a loop over it.
func TestAllStopsAndAgain(t *testing.T) {
	want := []int{3, 0, last, 8}
	seq := order(t, want...).All()
	for stop := 1; stop <= len(want); stop++ {
		var l []int
		for n := range seq {
			l = append(l, n)
			if len(l) == stop {
				break
			}
		}
		if !slices.Equal(l, want[:stop]) {
			t.Errorf("after %d slots the loop has gone over %v", stop, l)
		}
		checkSeq(t, seq, want)
	}
	var l []int
	for n := range seq {
		checkSeq(t, seq, want)
		l = append(l, n)
	}
	if !slices.Equal(l, want) {
		t.Errorf("with loops within it the loop has gone over %v", l)
	}
}

// P11.3: after it has stopped, no loop is handed another slot.
func TestAllStopsAtOnce(t *testing.T) {
	seq := order(t, 3, 0, 8).All()
	for stop := 1; stop <= 3; stop++ {
		calls := 0
		seq(func(int) bool {
			calls++
			return calls < stop
		})
		if calls != stop {
			t.Errorf("the loop that stops after %d slots was handed %d", stop, calls)
		}
	}
}

// P11.3: an iterator goes over the slots that were there when All was called, whatever is done after that.
func TestAllIsAsItWas(t *testing.T) {
	r := recent.New()
	type state struct {
		seq  iter.Seq[int]
		want []int
	}
	states := []state{{r.All(), nil}}
	then := func(want ...int) {
		checkSeq(t, r.All(), want)
		states = append(states, state{r.All(), want})
		for _, s := range states {
			checkSeq(t, s.seq, s.want)
		}
	}
	add(t, r, 5)
	then(5)
	add(t, r, 2, 9)
	then(5, 2, 9)
	use(t, r, 5)
	then(2, 9, 5)
	remove(t, r, 9)
	then(2, 5)
	add(t, r, 9, 0)
	then(2, 5, 9, 0)
	remove(t, r, 2, 5, 9, 0)
	then()
	add(t, r, 7)
	then(7)
}

// P11.3: what is done within a loop does not change over what it goes.
func TestChangesWithinLoop(t *testing.T) {
	want := []int{4, 1, 7, 0}
	for name, change := range map[string]func(r *recent.Recent, n int){
		"removed":      func(r *recent.Recent, n int) { remove(t, r, n) },
		"used":         func(r *recent.Recent, n int) { use(t, r, n) },
		"others added": func(r *recent.Recent, n int) { add(t, r, 100+n) },
		"all removed": func(r *recent.Recent, n int) {
			for n := range r.All() {
				remove(t, r, n)
			}
		},
	} {
		r := order(t, want...)
		var l []int
		for n := range r.All() {
			change(r, n)
			l = append(l, n)
		}
		if !slices.Equal(l, want) {
			t.Errorf("%s: the loop has gone over %v", name, l)
		}
	}
}

// P11.3: a copy has the order, and neither of them sees what is done with the other one.
func TestCopy(t *testing.T) {
	for _, slots := range [][]int{nil, {3}, {3, 0}, {3, 0, last}, {3, 0, last, 1, 2, 9, 8, 7, 6, 5, 4, 20, 21, 22, 23, 24, 25}} {
		r := order(t, slots...)
		c := r.Copy()
		other := c.Copy()
		add(t, r, 100, 101)
		checkOrder(t, c, slots...)
		add(t, c, 102)
		remove(t, c, slots...)
		checkOrder(t, c, 102)
		checkOrder(t, r, append(slices.Clone(slots), 100, 101)...)
		for _, n := range slots {
			use(t, r, n)
		}
		checkOrder(t, r, append([]int{100, 101}, slots...)...)
		checkOrder(t, other, slots...)
		checkOrder(t, c, 102)
		checkNo(t, other, 100, api.ErrNone)
		checkNo(t, other, 102, api.ErrNone)
		add(t, other, 102)
		checkOrder(t, other, append(slices.Clone(slots), 102)...)
	}
}

// P11.3: each of several copies goes on in a way of its own, in turn.
func TestCopiesInTurn(t *testing.T) {
	next := numbers(3)
	r := order(t, 0, 1, 2, 3, 4, 5)
	all := []*recent.Recent{r}
	like := []plain{{0, 1, 2, 3, 4, 5}}
	for step := range 600 {
		i := step % len(all)
		n := next(8)
		if e, want := all[i].Use(n), like[i].use(n); e != want {
			t.Fatalf("step %d: Use(%d) = %d, want %d", step, n, e, want)
		}
		n = next(8)
		if all[i].Has(n) {
			remove(t, all[i], n)
			like[i].remove(n)
		} else {
			add(t, all[i], n)
			like[i].add(n)
		}
		if step%30 == 0 {
			all, like = append(all, all[i].Copy()), append(like, slices.Clone(like[i]))
		}
		for k, x := range all {
			checkOrder(t, x, like[k]...)
		}
	}
}

// P11.1 to P11.4: all ways of up to five steps with three slots, after the definition, going on with copies; what is an error changes nothing, and what is done with a copy does not change the order.
func TestAfterDefinition(t *testing.T) {
	slots := []int{0, 1, last}
	var goOn func(r *recent.Recent, p plain, steps int)
	goOn = func(r *recent.Recent, p plain, steps int) {
		checkOrder(t, r, p...)
		for _, n := range slots {
			if r.Has(n) != slices.Contains(p, n) {
				t.Fatalf("%v: Has(%d) = %t", p, n, r.Has(n))
			}
		}
		if steps == 0 {
			return
		}
		for _, n := range slots {
			for kind := range 3 {
				c, q := r.Copy(), slices.Clone(p)
				e := []func(int) api.Errno{c.Add, c.Use, c.Remove}[kind](n)
				want := []func(int) api.Errno{q.add, q.use, q.remove}[kind](n)
				if e != want {
					t.Fatalf("%v: the call %d of %d = %d, want %d", p, kind, n, e, want)
				}
				goOn(c, q, steps-1)
			}
		}
		checkOrder(t, r, p...)
	}
	goOn(recent.New(), nil, 5)
}

// P11.1 to P11.4: long runs of one order, without copies, after the definition, with numbers of no slots among them.
func TestLongRuns(t *testing.T) {
	for seed := range uint64(40) {
		next := numbers(seed)
		slots := append(noSlots()[:5], last, last+1)
		for range 1 + next(30) {
			slots = append(slots, next(40), next(last))
		}
		r, p := recent.New(), plain{}
		for step := range 500 {
			n := slots[next(len(slots))]
			kind := next(4) % 3
			e := []func(int) api.Errno{r.Add, r.Use, r.Remove}[kind](n)
			want := []func(int) api.Errno{p.add, p.use, p.remove}[kind](n)
			if e != want {
				t.Fatalf("seed %d, step %d: the call %d of %d = %d, want %d", seed, step, kind, n, e, want)
			}
			checkOrder(t, r, p...)
		}
	}
}

// P11.4: the order is that of the last calls of Add or Use; calls with an error, and all the others, are no uses.
func TestOrderOfLastUse(t *testing.T) {
	for seed := range uint64(20) {
		next := numbers(seed)
		r := recent.New()
		uses := map[int]int{} // for each slot that is there the number of the call
		for call := range 1500 {
			n := next(20)
			_, there := uses[n]
			switch next(8) {
			case 0, 1:
				if r.Add(n) == api.OK == there {
					t.Fatalf("seed %d: Add(%d) of a slot that is there: %t", seed, n, there)
				}
				if !there {
					uses[n] = call
				}
			case 2, 3, 4:
				if r.Use(n) == api.OK != there {
					t.Fatalf("seed %d: Use(%d) of a slot that is there: %t", seed, n, there)
				}
				if there {
					uses[n] = call
				}
			case 5:
				if r.Remove(n) == api.OK != there {
					t.Fatalf("seed %d: Remove(%d) of a slot that is there: %t", seed, n, there)
				}
				delete(uses, n)
			case 6:
				r.Has(n)
				r.Next(n)
				r.Oldest()
			case 7:
				r.Copy().Use(n)
				for range r.All() {
				}
			}
			before := -1
			for n := range r.All() {
				at, there := uses[n]
				if !there || at <= before {
					t.Fatalf("seed %d: %v, used at %v", seed, slices.Collect(r.All()), uses)
				}
				before = at
			}
			if r.Len() != len(uses) {
				t.Fatalf("seed %d: Len = %d, want %d", seed, r.Len(), len(uses))
			}
		}
	}
}

// P11.4: going on with Next from Oldest visits all slots, as All does, after each call.
func TestNextVisitsAll(t *testing.T) {
	next := numbers(9)
	r := recent.New()
	for range 1500 {
		n := next(30)
		if next(3) == 0 {
			r.Remove(n)
		} else if r.Add(n) != api.OK {
			use(t, r, n)
		}
		var l []int
		n, e := r.Oldest()
		for e == api.OK && len(l) < 100 {
			l = append(l, n)
			n, e = r.Next(n)
		}
		if n != 0 || len(l) == 0 && e != api.ErrNone || len(l) > 0 && e != api.ErrEnd {
			t.Fatalf("after %v Next = %d, %d", l, n, e)
		}
		checkSeq(t, r.All(), l)
		if r.Len() != len(l) {
			t.Fatalf("Len = %d, but Next visits %v", r.Len(), l)
		}
	}
}

// P11.4: using the last slot changes nothing, however often it is done, in orders of any length.
func TestUseOfLast(t *testing.T) {
	var slots []int
	r := recent.New()
	for _, n := range []int{7, 0, last, 3, 1} {
		slots = append(slots, n)
		add(t, r, n)
		for range 3 {
			use(t, r, n)
			checkOrder(t, r, slots...)
		}
	}
	for i := len(slots) - 1; i > 0; i-- {
		remove(t, r, slots[i])
		use(t, r, slots[i-1], slots[i-1])
		checkOrder(t, r, slots[:i]...)
	}
}

// P11.4: the slots that are always used stay behind those that are not, through many rounds.
func TestManyUses(t *testing.T) {
	r := order(t, 10, 11, 12, 13)
	for round := range 50_000 {
		use(t, r, 13, 11)
		if round%2 == 0 {
			use(t, r, 13)
		}
	}
	checkOrder(t, r, 10, 12, 13, 11)
	for range 50_000 {
		n, _ := r.Oldest()
		use(t, r, n)
	}
	checkOrder(t, r, 10, 12, 13, 11)
	for round := range 50_000 {
		n, _ := r.Oldest()
		remove(t, r, n)
		add(t, r, (round*7)%1000)
	}
	checkOrder(t, r, 49996*7%1000, 49997*7%1000, 49998*7%1000, 49999*7%1000)
}

// P1, P11.1, P11.2, P11.3: as many slots as there may be, in time that grows as they do.
func TestMany(t *testing.T) {
	var all, odd, even []int
	for n := last; n >= 0; n-- {
		all = append(all, n)
	}
	for n := 0; n < last; n += 2 {
		odd, even = append(odd, last-n), append(even, n)
	}
	r := order(t, all...)
	checkAddFails(t, r, 0, api.ErrExists)
	checkAddFails(t, r, last+1, api.ErrArg)
	c, seq := r.Copy(), r.All()

	use(t, r, even...)
	checkLong(t, r.All(), slices.Concat(odd, even))
	checkOldest(t, r, last, api.OK)
	checkNext(t, r, 1, 0, api.OK)
	checkNext(t, r, last-1, 0, api.ErrEnd)
	if r.Len() != last+1 {
		t.Fatalf("Len = %d", r.Len())
	}

	remove(t, r, odd...)
	checkLong(t, r.All(), even)
	if r.Len() != len(even) {
		t.Fatalf("Len = %d", r.Len())
	}
	checkLong(t, seq, all)
	checkLong(t, c.All(), all)
}

// checkLong compares what an iterator goes over with what it should be, and says only where it is first something else.
func checkLong(t *testing.T, seq iter.Seq[int], want []int) {
	t.Helper()
	l := slices.Collect(seq)
	for i := range min(len(l), len(want)) {
		if l[i] != want[i] {
			t.Fatalf("at the place %d there is %d, want %d", i, l[i], want[i])
		}
	}
	if len(l) != len(want) {
		t.Fatalf("the iterator goes over %d slots, want %d", len(l), len(want))
	}
}

// P11.1: orders with which the same was done say the same, whatever was done with others.
func TestAgain(t *testing.T) {
	for range 3 {
		a, b := order(t, 5, 2, 9), order(t, 9)
		remove(t, b, 9)
		use(t, a, 2)
		add(t, b, 2, 5)
		checkOrder(t, a, 5, 9, 2)
		checkOrder(t, b, 2, 5)
		use(t, b, 2)
		checkOrder(t, a, 5, 9, 2)
		checkOrder(t, b, 5, 2)
	}
}
