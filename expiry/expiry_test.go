package expiry_test

import (
	"math"
	"slices"
	"testing"

	"tagcache/api"
	"tagcache/arena"
	"tagcache/expiry"
)

const (
	last  = arena.MaxSlots - 1 // the greatest number of a slot
	never = api.Never
)

// noSlots returns numbers of no slot, such as are one in fewer bits too.
func noSlots() []int {
	return []int{-1, -2, -last, -last - 1, -last - 2, -1 << 32, -1<<32 + 5, math.MinInt, math.MinInt + 5, last + 1, last + 2, last + 6, 2 * last, 1<<31 - 1, 1 << 31, 1 << 32, 1<<32 + 5, math.MaxInt - 1, math.MaxInt}
}

// someTimes returns times at both ends and between them.
func someTimes() []api.Time {
	return []api.Time{0, 1, 2, 7, 8, 9, 1<<31 - 1, 1 << 31, 1 << 32, 1<<32 + 1, 1<<63 - 1, 1 << 63, 1<<63 + 1, never - 2, never - 1, never}
}

// at is a slot with a deadline.
func at(n int, deadline api.Time) api.Timed { return api.Timed{N: n, At: deadline} }

// heap returns a heap into which some slots were put.
func heap(t *testing.T, slots ...api.Timed) *expiry.Heap {
	t.Helper()
	h := expiry.New()
	put(t, h, slots...)
	return h
}

// put puts in slots that are not there.
func put(t *testing.T, h *expiry.Heap, slots ...api.Timed) {
	t.Helper()
	for i, x := range slots {
		if e := h.Put(x.N, x.At); e != api.OK {
			t.Fatalf("Put %d of %v = %d", i, slots, e)
		}
	}
}

// move gives other deadlines to slots that are there.
func move(t *testing.T, h *expiry.Heap, slots ...api.Timed) {
	t.Helper()
	for i, x := range slots {
		if e := h.Move(x.N, x.At); e != api.OK {
			t.Fatalf("Move %d of %v = %d", i, slots, e)
		}
	}
}

// checkRemove removes slots that are there, with the deadlines that they must have.
func checkRemove(t *testing.T, h *expiry.Heap, slots ...api.Timed) {
	t.Helper()
	for i, x := range slots {
		if got, e := h.Remove(x.N); got != x.At || e != api.OK {
			t.Fatalf("Remove %d of %v = %d, %d", i, slots, got, e)
		}
	}
}

// checkFirst compares what First returns with what it should be.
func checkFirst(t *testing.T, h *expiry.Heap, want api.Timed, e api.Errno) {
	t.Helper()
	if x, err := h.First(); x != want || err != e {
		t.Fatalf("First = %v, %d, want %v, %d", x, err, want, e)
	}
}

// checkDue compares what Due takes out with what it should be.
func checkDue(t *testing.T, h *expiry.Heap, now api.Time, want ...api.Timed) {
	t.Helper()
	if l, e := h.Due(now); !slices.Equal(l, want) || e != api.OK {
		t.Fatalf("Due(%d) = %v, %d, want %v", now, l, e, want)
	}
}

// checkNo checks that a number is not that of a slot that is there: nothing can be done with it.
func checkNo(t *testing.T, h *expiry.Heap, n int, want api.Errno) {
	t.Helper()
	for _, deadline := range []api.Time{0, 5, never} {
		if e := h.Move(n, deadline); e != want {
			t.Fatalf("Move(%d, %d) = %d, want %d", n, deadline, e, want)
		}
	}
	if x, e := h.Remove(n); x != 0 || e != want {
		t.Fatalf("Remove(%d) = %d, %d, want %d", n, x, e, want)
	}
	if x, e := h.Get(n); x != 0 || e != want {
		t.Fatalf("Get(%d) = %d, %d, want %d", n, x, e, want)
	}
}

// checkPutFails checks that a slot cannot be put in, whatever its deadline is.
func checkPutFails(t *testing.T, h *expiry.Heap, n int, want api.Errno) {
	t.Helper()
	for _, deadline := range []api.Time{0, 5, never} {
		if e := h.Put(n, deadline); e != want {
			t.Fatalf("Put(%d, %d) = %d, want %d", n, deadline, e, want)
		}
	}
}

// checkHeap compares all that a heap says of itself with what it should be.
func checkHeap(t *testing.T, h *expiry.Heap, want ...api.Timed) {
	t.Helper()
	if l := h.List(); !slices.Equal(l, want) {
		t.Fatalf("List = %v, want %v", l, want)
	}
	if h.Len() != len(want) {
		t.Fatalf("Len = %d, want that of %v", h.Len(), want)
	}
	for _, x := range want {
		if got, e := h.Get(x.N); got != x.At || e != api.OK {
			t.Fatalf("Get(%d) = %d, %d, want %v", x.N, got, e, want)
		}
	}
	if len(want) == 0 {
		checkFirst(t, h, api.Timed{}, api.ErrNone)
	} else {
		checkFirst(t, h, want[0], api.OK)
	}
}

// checkEnd takes everything out of a copy in two ways, which shows whether the heap is one also below its first slot.
func checkEnd(t *testing.T, h *expiry.Heap, want ...api.Timed) {
	t.Helper()
	c, d := h.Copy(), h.Copy()
	for i, x := range want {
		checkFirst(t, c, x, api.OK)
		checkRemove(t, c, x)
		if c.Len() != len(want)-i-1 {
			t.Fatalf("Len = %d after %d of %v", c.Len(), i, want)
		}
	}
	checkFirst(t, c, api.Timed{}, api.ErrNone)
	due := len(want)
	for due > 0 && want[due-1].At == never {
		due--
	}
	checkDue(t, d, never, want[:due]...)
	checkHeap(t, d, want[due:]...)
}

// plain is a heap after the definition: its slots in order.
type plain []api.Timed

// place returns where in order a slot is, or where it would be.
func (p plain) place(x api.Timed) int {
	for i, y := range p {
		if y.At > x.At || y.At == x.At && y.N >= x.N {
			return i
		}
	}
	return len(p)
}

// find returns where a slot is, or the error for a number that is that of none or of one that is not there.
func (p plain) find(n int) (int, api.Errno) {
	if n < 0 || n > last {
		return 0, api.ErrArg
	}
	for i, x := range p {
		if x.N == n {
			return i, api.OK
		}
	}
	return 0, api.ErrNone
}

// put puts a slot in.
func (p *plain) put(n int, deadline api.Time) api.Errno {
	switch _, e := p.find(n); e {
	case api.OK:
		return api.ErrExists
	case api.ErrNone:
		x := at(n, deadline)
		*p = slices.Insert(slices.Clone(*p), p.place(x), x)
		return api.OK
	default:
		return e
	}
}

// remove takes a slot out.
func (p *plain) remove(n int) (api.Time, api.Errno) {
	i, e := p.find(n)
	if e != api.OK {
		return 0, e
	}
	x := (*p)[i]
	*p = slices.Concat((*p)[:i], (*p)[i+1:])
	return x.At, api.OK
}

// move gives a slot another deadline.
func (p *plain) move(n int, deadline api.Time) api.Errno {
	if _, e := p.remove(n); e != api.OK {
		return e
	}
	return p.put(n, deadline)
}

// due takes out what is due at a time.
func (p *plain) due(now api.Time) []api.Timed {
	var due, rest []api.Timed
	for _, x := range *p {
		if x.At != never && x.At <= now {
			due = append(due, x)
		} else {
			rest = append(rest, x)
		}
	}
	*p = rest
	return due
}

// sorted returns slots in order, after the definition.
func sorted(slots []api.Timed) []api.Timed {
	var p plain
	for _, x := range slots {
		p.put(x.N, x.At)
	}
	return p
}

// numbers returns numbers that look as if they had no rule, but are the same ones in each run.
func numbers(seed uint64) func(below int) int {
	return func(below int) int {
		seed = seed*6364136223846793005 + 1442695040888963407
		return int(seed>>33) % below
	}
}

// eachOrder calls a function with all orders of some slots.
func eachOrder(slots []api.Timed, f func([]api.Timed)) {
	var goOn func(first, rest []api.Timed)
	goOn = func(first, rest []api.Timed) {
		if len(rest) == 0 {
			f(first)
		}
		for i, x := range rest {
			goOn(append(slices.Clone(first), x), slices.Concat(rest[:i], rest[i+1:]))
		}
	}
	goOn(nil, slots)
}

// someHeaps returns lists of slots, with deadlines that grow, fall, are equal, and others, at both ends of the numbers and the times.
func someHeaps() [][]api.Timed {
	return [][]api.Timed{
		nil,
		{at(0, 0)},
		{at(last, never)},
		{at(3, 5), at(2, 5)},
		{at(0, 1), at(1, 2), at(2, 3), at(3, 4), at(4, 5), at(5, 6), at(6, 7), at(7, 8)},
		{at(0, 8), at(1, 7), at(2, 6), at(3, 5), at(4, 4), at(5, 3), at(6, 2), at(7, 1)},
		{at(7, 5), at(3, 5), at(last, 5), at(0, 5), at(1, 5), at(last-1, 5), at(2, 5)},
		{at(7, never), at(3, never), at(last, never), at(0, never), at(1, never)},
		{at(1, 1), at(2, 10), at(3, 2), at(4, 11), at(5, 12), at(6, 3), at(7, 4)}, // what comes last in it belongs above another branch
		{at(1, 1), at(2, 2), at(3, 30), at(4, 3), at(5, 4), at(6, 31), at(7, 32), at(8, 5), at(9, 6), at(10, 7)},
		{at(9, never), at(5, 0), at(4, never-1), at(8, 1<<63), at(1, 1<<63-1), at(0, never), at(last, 0), at(2, 1<<32), at(3, 1<<31)},
	}
}

// P12.1, P12.2, P12.3: the examples of the chapter.
func TestExamples(t *testing.T) {
	h := heap(t, at(4, 9), at(2, 9), at(7, 5), at(1, never))
	if e := h.Put(4, 1); e != api.ErrExists {
		t.Errorf("Put(4, 1) = %d", e)
	}
	checkFirst(t, h, at(7, 5), api.OK)
	checkHeap(t, h, at(7, 5), at(2, 9), at(4, 9), at(1, never))

	move(t, h, at(7, 9))
	if x, e := h.Get(7); x != 9 || e != api.OK {
		t.Errorf("Get(7) = %d, %d", x, e)
	}
	checkDue(t, h, 8)
	checkDue(t, h, 9, at(2, 9), at(4, 9), at(7, 9))
	if h.Len() != 1 {
		t.Errorf("Len = %d", h.Len())
	}
	checkDue(t, h, never)
	checkFirst(t, h, at(1, never), api.OK)

	checkRemove(t, h, at(1, never))
	if x, e := h.Remove(1); x != 0 || e != api.ErrNone {
		t.Errorf("Remove(1) = %d, %d", x, e)
	}
	checkFirst(t, h, api.Timed{}, api.ErrNone)
	for _, c := range []struct {
		n    int
		want api.Errno
	}{{-1, api.ErrArg}, {1048576, api.ErrArg}, {1048575, api.OK}} {
		if e := h.Put(c.n, 0); e != c.want {
			t.Errorf("Put(%d, 0) = %d", c.n, e)
		}
	}
	if e := h.Move(3, 1); e != api.ErrNone {
		t.Errorf("Move(3, 1) = %d", e)
	}
}

// P12.1, P12.2, P12.3: a new heap is empty, each time.
func TestNew(t *testing.T) {
	for range 3 {
		h := expiry.New()
		if h == nil {
			t.Fatal("New = nil")
		}
		checkHeap(t, h)
		for _, n := range []int{0, 1, 7, last} {
			checkNo(t, h, n, api.ErrNone)
		}
		for _, now := range someTimes() {
			checkDue(t, h, now)
		}
		checkHeap(t, h.Copy())
		put(t, h, at(3, 2), at(0, 1))
		checkHeap(t, h, at(0, 1), at(3, 2))
	}
}

// P12.1, P12.2, P12.3: slots come in order, whatever the order is in which they were put in.
func TestPut(t *testing.T) {
	for _, slots := range [][]api.Timed{
		{at(0, 0), at(1, 1), at(2, 2), at(3, 3), at(4, 4), at(5, 5)},
		{at(0, 5), at(1, 4), at(2, 3), at(3, 2), at(4, 1), at(5, 0)},
		{at(0, 9), at(1, 9), at(last-1, 9), at(last, 9), at(1<<16, 9), at(1<<8, 9)},
		{at(0, never), at(last, never), at(3, never-1), at(2, 0), at(1, 1<<63), at(4, 1<<63-1)},
	} {
		eachOrder(slots, func(order []api.Timed) {
			h := expiry.New()
			for i, x := range order {
				checkNo(t, h, x.N, api.ErrNone)
				put(t, h, x)
				checkHeap(t, h, sorted(order[:i+1])...)
			}
			checkEnd(t, h, sorted(order)...)
		})
	}
}

// P12.1, P12.2, P12.3: a slot at each place of a heap of each length gets each other deadline, the others keep theirs.
func TestMove(t *testing.T) {
	for _, all := range someHeaps() {
		for size := 1; size <= len(all); size++ {
			slots := all[:size]
			for i, x := range slots {
				rest := slices.Concat(slots[:i], slots[i+1:])
				for _, deadline := range append(someTimes(), 3, 4, 5, 6, 10, 11, 30, 31, 100, x.At) {
					h := heap(t, slots...)
					move(t, h, at(x.N, deadline))
					want := sorted(append(rest, at(x.N, deadline)))
					checkHeap(t, h, want...)
					checkEnd(t, h, want...)
				}
			}
		}
	}
}

// P12.1, P12.2, P12.3: a slot at each place of a heap of each length is taken out, the others keep their deadlines; it can be put in again with another one.
func TestRemove(t *testing.T) {
	for _, all := range someHeaps() {
		for size := 1; size <= len(all); size++ {
			slots := all[:size]
			for i, x := range slots {
				h := heap(t, slots...)
				checkRemove(t, h, x)
				rest := sorted(slices.Concat(slots[:i], slots[i+1:]))
				checkHeap(t, h, rest...)
				checkEnd(t, h, rest...)
				checkNo(t, h, x.N, api.ErrNone)
				checkHeap(t, h, rest...)
				put(t, h, at(x.N, 6))
				checkHeap(t, h, sorted(append(rest, at(x.N, 6)))...)
				checkPutFails(t, h, x.N, api.ErrExists)
			}
		}
	}
}

// P12.1: slots are taken out in all orders, each of them with its own deadline.
func TestRemoveInAllOrders(t *testing.T) {
	slots := []api.Timed{at(5, 1), at(1, 10), at(3, 2), at(0, 10), at(last, 12), at(2, 3)}
	eachOrder(slots, func(order []api.Timed) {
		h := heap(t, slots...)
		for i, x := range order {
			checkRemove(t, h, x)
			checkHeap(t, h, sorted(order[i+1:])...)
		}
	})
}

// P12.1, P12.2: heaps that have become empty can be filled again.
func TestEmptyAgain(t *testing.T) {
	h := expiry.New()
	for round := range api.Time(4) {
		put(t, h, at(4, 9), at(2, round), at(8, 7))
		move(t, h, at(4, 3))
		checkHeap(t, h, sorted([]api.Timed{at(4, 3), at(2, round), at(8, 7)})...)
		checkRemove(t, h, at(8, 7), at(2, round))
		if round%2 == 0 {
			checkRemove(t, h, at(4, 3))
		} else {
			checkDue(t, h, 3, at(4, 3))
		}
		checkHeap(t, h)
		checkNo(t, h, 4, api.ErrNone)
	}
}

// P12.1: numbers of no slot, in heaps without slots, with some and with those at both ends; nothing changes.
func TestNoSlots(t *testing.T) {
	for _, slots := range [][]api.Timed{nil, {at(5, 5)}, {at(0, 0), at(last, never)}, {at(last, 1), at(5, 1), at(0, 1), at(1, 1), at(last-1, 1)}} {
		h := heap(t, slots...)
		for _, n := range noSlots() {
			checkPutFails(t, h, n, api.ErrArg)
			checkNo(t, h, n, api.ErrArg)
			checkHeap(t, h, sorted(slots)...)
		}
	}
}

// P12.1: both ends of the numbers of slots.
func TestEnds(t *testing.T) {
	if last != 1048575 {
		t.Errorf("the last slot is %d", last)
	}
	h := expiry.New()
	for _, n := range []int{0, last} {
		checkNo(t, h, n, api.ErrNone)
		put(t, h, at(n, 5))
	}
	checkHeap(t, h, at(0, 5), at(last, 5))
	move(t, h, at(0, 6))
	checkHeap(t, h, at(last, 5), at(0, 6))
	checkRemove(t, h, at(0, 6))
	checkNo(t, h, 0, api.ErrNone)
	checkHeap(t, h, at(last, 5))
	checkRemove(t, h, at(last, 5))
	checkNo(t, h, last, api.ErrNone)
	checkHeap(t, h)
}

// P12.1: slots that are there cannot be put in, slots that are not there cannot be moved, removed or got, and nothing changes.
func TestThereAndNotThere(t *testing.T) {
	h := heap(t, at(4, 9), at(0, never), at(7, 1), at(6, 2), at(last, 3))
	checkRemove(t, h, at(7, 1))
	checkDue(t, h, 2, at(6, 2))
	want := []api.Timed{at(last, 3), at(4, 9), at(0, never)}
	for range 2 {
		for _, x := range want {
			checkPutFails(t, h, x.N, api.ErrExists)
			checkHeap(t, h, want...)
		}
		for _, n := range []int{1, 2, 3, 5, 6, 7, last - 1, 1 << 16} {
			checkNo(t, h, n, api.ErrNone)
			checkHeap(t, h, want...)
		}
	}
}

// P12.1, P12.2, P12.3: nil and zero heaps, whatever the arguments are.
func TestNoHeap(t *testing.T) {
	var none *expiry.Heap
	for i, h := range []*expiry.Heap{none, {}} {
		for range 2 {
			for _, n := range append(noSlots(), 0, 1, 5, last) {
				checkPutFails(t, h, n, api.ErrNil)
				checkNo(t, h, n, api.ErrNil)
			}
			checkFirst(t, h, api.Timed{}, api.ErrNil)
			for _, now := range someTimes() {
				if l, e := h.Due(now); len(l) != 0 || e != api.ErrNil {
					t.Errorf("case %d: Due(%d) = %v, %d", i, now, l, e)
				}
			}
			if h.Len() != 0 || len(h.List()) != 0 || h.Copy() != nil {
				t.Errorf("case %d: Len = %d, List = %v, or there is a copy", i, h.Len(), h.List())
			}
		}
	}
}

// P12.2: First takes nothing out, however often it is called.
func TestFirst(t *testing.T) {
	for _, slots := range someHeaps() {
		h := heap(t, slots...)
		want := sorted(slots)
		for range 4 {
			checkHeap(t, h, want...)
		}
	}
	h := heap(t, at(5, 5))
	checkFirst(t, h, at(5, 5), api.OK)
	put(t, h, at(6, 5))
	checkFirst(t, h, at(5, 5), api.OK)
	put(t, h, at(4, 5))
	checkFirst(t, h, at(4, 5), api.OK)
	put(t, h, at(last, 4))
	checkFirst(t, h, at(last, 4), api.OK)
	put(t, h, at(0, never))
	checkFirst(t, h, at(last, 4), api.OK)
	move(t, h, at(0, 0))
	checkFirst(t, h, at(0, 0), api.OK)
	move(t, h, at(0, 6), at(last, 6))
	checkFirst(t, h, at(4, 5), api.OK)
}

// P12.2: at each time what is due is taken out, in order, and only once; the rest stays.
func TestDue(t *testing.T) {
	for _, slots := range someHeaps() {
		for _, now := range append(someTimes(), 3, 4, 5, 6, 10, 11, 12, 30, 31, 32, 33) {
			h, p := heap(t, slots...), plain(sorted(slots))
			due := p.due(now)
			checkDue(t, h, now, due...)
			checkHeap(t, h, p...)
			for _, x := range due {
				checkNo(t, h, x.N, api.ErrNone)
			}
			checkDue(t, h, now)
			checkDue(t, h, 0)
			checkHeap(t, h, p...)
			checkEnd(t, h, p...)
			put(t, h, due...)
			checkHeap(t, h, sorted(slots)...)
		}
	}
}

// P12.2: a deadline has come at its own time and at later ones, but not before.
func TestDueAtDeadline(t *testing.T) {
	for _, deadline := range someTimes() {
		for _, now := range someTimes() {
			h := heap(t, at(3, deadline))
			if deadline != never && now >= deadline {
				checkDue(t, h, now, at(3, deadline))
				checkHeap(t, h)
			} else {
				checkDue(t, h, now)
				checkHeap(t, h, at(3, deadline))
			}
		}
	}
}

// P12.2: the deadline that a slot has got last counts, not those that it had before.
func TestDueAfterMove(t *testing.T) {
	h := heap(t, at(1, 5), at(2, 5), at(3, 5), at(4, never))
	move(t, h, at(1, 9), at(3, never), at(4, 6), at(2, 5))
	checkDue(t, h, 5, at(2, 5))
	checkDue(t, h, 8, at(4, 6))
	move(t, h, at(1, 2))
	checkDue(t, h, 1)
	checkDue(t, h, 2, at(1, 2))
	checkDue(t, h, never)
	move(t, h, at(3, never-1))
	checkDue(t, h, never-2)
	checkDue(t, h, never, at(3, never-1))
	checkHeap(t, h)
}

// P12.2, P12.3: what List and Due return is not changed by what is done later, nor does changing it change the heap.
func TestResultsShareNoMemory(t *testing.T) {
	want := []api.Timed{at(5, 1), at(2, 3), at(9, 4), at(4, 7), at(1, never)}
	h := heap(t, want...)
	one, two := h.List(), h.List()
	for i := range one {
		one[i] = at(77, 77)
	}
	_ = append(one[:1], at(78, 78))
	if !slices.Equal(two, want) {
		t.Errorf("another list is %v", two)
	}
	checkHeap(t, h, want...)
	checkEnd(t, h, want...)

	c := h.Copy()
	due, e := h.Due(4)
	if e != api.OK || !slices.Equal(due, want[:3]) {
		t.Fatalf("Due(4) = %v, %d", due, e)
	}
	put(t, h, at(20, 0), at(21, 0), at(22, 0), at(23, 0))
	if !slices.Equal(due, want[:3]) || !slices.Equal(two, want) {
		t.Errorf("later on Due(4) is %v, and List %v", due, two)
	}
	due = append(due, at(80, 80), at(81, 81), at(82, 82))
	for i := range due {
		due[i] = at(79, 79)
	}
	checkHeap(t, h, at(20, 0), at(21, 0), at(22, 0), at(23, 0), at(4, 7), at(1, never))
	checkEnd(t, h, at(20, 0), at(21, 0), at(22, 0), at(23, 0), at(4, 7), at(1, never))
	checkHeap(t, c, want...)
}

// P12.3: a copy has all slots, and neither of them sees what is done with the other one.
func TestCopy(t *testing.T) {
	for _, slots := range someHeaps() {
		want := sorted(slots)
		h := heap(t, slots...)
		c := h.Copy()
		other := c.Copy()
		put(t, h, at(100, 0), at(101, 6))
		checkHeap(t, c, want...)
		put(t, c, at(102, 5))
		checkRemove(t, c, slots...)
		checkHeap(t, c, at(102, 5))
		checkNo(t, h, 102, api.ErrNone)
		for _, x := range slots {
			move(t, h, at(x.N, 6))
		}
		moved := []api.Timed{at(100, 0), at(101, 6)}
		for _, x := range slots {
			moved = append(moved, at(x.N, 6))
		}
		checkHeap(t, h, sorted(moved)...)
		checkHeap(t, other, want...)
		checkEnd(t, other, want...)
		if l, e := h.Due(6); len(l) != len(moved) || e != api.OK {
			t.Fatalf("Due(6) = %v, %d", l, e)
		}
		checkHeap(t, other, want...)
		checkHeap(t, c, at(102, 5))
		checkNo(t, other, 100, api.ErrNone)
		put(t, other, at(102, 5))
		checkHeap(t, other, sorted(append(want, at(102, 5)))...)
	}
}

// P12.3: each of several copies goes on in a way of its own, in turn.
func TestCopiesInTurn(t *testing.T) {
	next := numbers(3)
	all := []*expiry.Heap{heap(t, at(0, 3), at(1, 1), at(2, 2), at(3, 3))}
	like := []plain{{at(1, 1), at(2, 2), at(0, 3), at(3, 3)}}
	for step := range 600 {
		i := step % len(all)
		n, deadline := next(8), api.Time(next(9))
		if e, want := all[i].Move(n, deadline), like[i].move(n, deadline); e != want {
			t.Fatalf("step %d: Move(%d, %d) = %d, want %d", step, n, deadline, e, want)
		}
		n = next(8)
		if _, e := like[i].find(n); e == api.OK {
			x, _ := like[i].remove(n)
			checkRemove(t, all[i], at(n, x))
		} else {
			put(t, all[i], at(n, deadline))
			like[i].put(n, deadline)
		}
		if step%30 == 0 {
			all, like = append(all, all[i].Copy()), append(like, slices.Clone(like[i]))
		}
		for k, x := range all {
			checkHeap(t, x, like[k]...)
		}
	}
}

// doSame does the same with a heap and with one after the definition, and compares what they return.
func doSame(t *testing.T, h *expiry.Heap, p *plain, kind, n int, when api.Time) {
	t.Helper()
	switch kind {
	case 0:
		if e, want := h.Put(n, when), p.put(n, when); e != want {
			t.Fatalf("Put(%d, %d) = %d, want %d: %v", n, when, e, want, *p)
		}
	case 1:
		if e, want := h.Move(n, when), p.move(n, when); e != want {
			t.Fatalf("Move(%d, %d) = %d, want %d: %v", n, when, e, want, *p)
		}
	case 2:
		x, e := h.Remove(n)
		if y, want := p.remove(n); x != y || e != want {
			t.Fatalf("Remove(%d) = %d, %d, want %d, %d: %v", n, x, e, y, want, *p)
		}
	case 3:
		checkDue(t, h, when, p.due(when)...)
	}
}

// P12.1 to P12.4: all ways of up to four steps with three slots and three deadlines, after the definition, going on with copies; what is an error changes nothing, and what is done with a copy does not change the heap.
func TestAfterDefinition(t *testing.T) {
	slots, times := []int{0, 1, last}, []api.Time{1, 2, never}
	var goOn func(h *expiry.Heap, p plain, steps int)
	goOn = func(h *expiry.Heap, p plain, steps int) {
		checkHeap(t, h, p...)
		for _, n := range slots {
			if _, want := p.find(n); want == api.ErrNone {
				if x, e := h.Get(n); x != 0 || e != want {
					t.Fatalf("%v: Get(%d) = %d, %d", p, n, x, e)
				}
			}
		}
		if steps == 0 {
			return
		}
		then := func(kind, n int, when api.Time) {
			c, q := h.Copy(), slices.Clone(p)
			doSame(t, c, &q, kind, n, when)
			goOn(c, q, steps-1)
		}
		for _, when := range times {
			for _, n := range slots {
				then(0, n, when)
				then(1, n, when)
			}
			then(3, 0, when)
		}
		for _, n := range slots {
			then(2, n, 0)
		}
		then(3, 0, 0)
		checkHeap(t, h, p...)
	}
	goOn(expiry.New(), nil, 4)
}

// P12.1 to P12.4: long runs of one heap, without copies, after the definition, with numbers of no slots and deadlines at both ends among them.
func TestLongRuns(t *testing.T) {
	for seed := range uint64(60) {
		next := numbers(seed)
		slots := append(noSlots()[:5], last, last+1)
		for range 1 + next(40) {
			slots = append(slots, next(50), next(last))
		}
		times := []api.Time{0, never, never - 1, 1 << 63}
		for range 1 + next(30) {
			times = append(times, api.Time(next(40)))
		}
		h, p := expiry.New(), plain{}
		for range 500 {
			kind := []int{0, 0, 0, 0, 1, 1, 1, 1, 2, 2}[next(10)]
			when := times[next(len(times))]
			if next(20) == 0 {
				kind, when = 3, api.Time(next(20))
			}
			doSame(t, h, &p, kind, slots[next(len(slots))], when)
			checkHeap(t, h, p...)
		}
		checkEnd(t, h, p...)
		for _, now := range []api.Time{3, 9, 9, 20, 40, 1 << 63, never - 1, never} {
			doSame(t, h, &p, 3, 0, now)
			checkHeap(t, h, p...)
		}
	}
}

// random returns a heap of up to some slots, with deadlines below a bound and, sometimes, Never.
func random(t *testing.T, next func(int) int, slots, below int) *expiry.Heap {
	t.Helper()
	h := expiry.New()
	for n := range next(slots + 1) {
		deadline := api.Time(next(below))
		if next(7) == 0 {
			deadline = never
		}
		put(t, h, at(n*5%97, deadline))
	}
	for range next(slots + 1) {
		h.Move(next(97), api.Time(next(below)))
		h.Remove(next(97))
	}
	return h
}

// P12.4: what Due returns is the beginning of what List has returned, and List returns the rest of it afterwards.
func TestDueIsBeginningOfList(t *testing.T) {
	next := numbers(5)
	times := append(someTimes(), 3, 4, 5, 10, 15, 19, 20)
	for range 1500 {
		h := random(t, next, 60, 20)
		before := h.List()
		now := times[next(len(times))]
		due, e := h.Due(now)
		if e != api.OK || len(due) > len(before) || !slices.Equal(due, before[:len(due)]) || !slices.Equal(h.List(), before[len(due):]) {
			t.Fatalf("Due(%d) = %v, %d of %v, and then %v", now, due, e, before, h.List())
		}
		for i, x := range before {
			if want := x.At != never && x.At <= now; want != (i < len(due)) {
				t.Fatalf("Due(%d) = %v of %v", now, due, before)
			}
		}
	}
}

// P12.4: Due at a time and then at a later one returns together what Due at the later one would.
func TestDueInSteps(t *testing.T) {
	next := numbers(6)
	times := append(someTimes(), 3, 4, 5, 6, 10, 12, 15, 18, 19, 20)
	slices.Sort(times)
	for range 1500 {
		h := random(t, next, 60, 20)
		i := next(len(times))
		j := i + next(len(times)-i)
		c := h.Copy()
		one, e := h.Due(times[i])
		two, f := h.Due(times[j])
		all, g := c.Due(times[j])
		if e != api.OK || f != api.OK || g != api.OK || !slices.Equal(slices.Concat(one, two), all) {
			t.Fatalf("Due(%d) = %v, Due(%d) = %v, but at once %v", times[i], one, times[j], two, all)
		}
		checkHeap(t, h, c.List()...)
	}
}

// P12.4: Due tick by tick returns everything that has a deadline, at its own tick.
func TestDueTickByTick(t *testing.T) {
	h := expiry.New()
	for n := range 300 {
		put(t, h, at(n, api.Time(n*37%100)))
	}
	for now := range api.Time(100) {
		l, e := h.Due(now)
		if e != api.OK || len(l) != 3 {
			t.Fatalf("Due(%d) = %v, %d", now, l, e)
		}
		for i, x := range l {
			if x.At != now || i > 0 && x.N <= l[i-1].N {
				t.Fatalf("Due(%d) = %v", now, l)
			}
		}
	}
	checkHeap(t, h)
}

// P12.4: removing what First returns, again and again, gives List.
func TestRemovingFirst(t *testing.T) {
	next := numbers(7)
	for range 500 {
		h := random(t, next, 90, 40)
		want := h.List()
		var l []api.Timed
		for x, e := h.First(); e == api.OK; x, e = h.First() {
			checkRemove(t, h, x)
			l = append(l, x)
		}
		if !slices.Equal(l, want) {
			t.Fatalf("removing what First returns gives %v, but List is %v", l, want)
		}
		checkHeap(t, h)
	}
}

// P12.4: a slot whose deadline is Never is never due, however it has got it.
func TestNeverIsNeverDue(t *testing.T) {
	h := heap(t, at(3, never), at(0, 5), at(last, never), at(8, never-1), at(2, 5))
	move(t, h, at(0, never))
	for _, now := range someTimes() {
		l, e := h.Due(now)
		for _, x := range l {
			if e != api.OK || x.At == never {
				t.Fatalf("Due(%d) = %v, %d", now, l, e)
			}
		}
	}
	checkHeap(t, h, at(0, never), at(3, never), at(last, never))
	checkDue(t, h, never)
	checkFirst(t, h, at(0, never), api.OK)
	move(t, h, at(3, never-1))
	checkDue(t, h, never, at(3, never-1))
	checkHeap(t, h, at(0, never), at(last, never))
}

// P1, P12.1, P12.2, P12.3: as many slots as there may be, in time that grows as they do.
func TestMany(t *testing.T) {
	const step = 7919 // odd, so that all numbers come, each of them once
	h := expiry.New()
	for i := range last + 1 {
		put(t, h, at(i*step&last, api.Time(i/2)))
	}
	checkPutFails(t, h, 0, api.ErrExists)
	checkPutFails(t, h, last+1, api.ErrArg)
	c := h.Copy()
	want := make([]api.Timed, 0, last+1)
	for i := 0; i <= last; i += 2 {
		n, m := i*step&last, (i+1)*step&last
		want = append(want, at(min(n, m), api.Time(i/2)), at(max(n, m), api.Time(i/2)))
	}
	checkLong(t, h.List(), want)
	for n := 0; n <= last; n += 2 { // all slots without a rest get deadlines in the other direction, behind the others
		move(t, h, at(n, api.Time(2*last-n)))
	}
	due, e := h.Due(last)
	if e != api.OK || len(due) != (last+1)/2 || h.Len() != (last+1)/2 {
		t.Fatalf("Due takes out %d slots with the error %d, and %d are left", len(due), e, h.Len())
	}
	for i, x := range due {
		if x.N%2 != 1 || i > 0 && (x.At < due[i-1].At || x.At == due[i-1].At && x.N <= due[i-1].N) {
			t.Fatalf("the slot %d that is due is %v", i, x)
		}
	}
	for n := last - 1; n >= 0; n -= 2 {
		checkFirst(t, h, at(n, api.Time(2*last-n)), api.OK)
		checkRemove(t, h, at(n, api.Time(2*last-n)))
	}
	checkHeap(t, h)
	checkLong(t, c.List(), want)
}

// checkLong compares a list with what it should be, and says only where it is first something else.
func checkLong(t *testing.T, l, want []api.Timed) {
	t.Helper()
	if len(l) != len(want) {
		t.Fatalf("there are %d slots, want %d", len(l), len(want))
	}
	for i, x := range l {
		if x != want[i] {
			t.Fatalf("at the place %d there is %v, want %v", i, x, want[i])
		}
	}
}

// P1, P12.1: heaps with which the same was done say the same, whatever was done with others, and whatever the order was in which it was done.
func TestAgain(t *testing.T) {
	for range 3 {
		a, b := heap(t, at(5, 2), at(2, 9), at(9, 1)), heap(t, at(9, 7))
		checkRemove(t, b, at(9, 7))
		move(t, a, at(2, 1))
		put(t, b, at(2, 1), at(9, 1), at(5, 2))
		checkHeap(t, a, at(2, 1), at(9, 1), at(5, 2))
		checkHeap(t, b, at(2, 1), at(9, 1), at(5, 2))
		checkDue(t, b, 1, at(2, 1), at(9, 1))
		checkHeap(t, a, at(2, 1), at(9, 1), at(5, 2))
		checkHeap(t, b, at(5, 2))
	}
}
