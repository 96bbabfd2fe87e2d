package intern_test

import (
	"fmt"
	"maps"
	"math"
	"runtime"
	"slices"
	"strings"
	"testing"

	"tagcache/api"
	"tagcache/hash"
	"tagcache/intern"
)

// seeds are the ends, and some that differ in few bits.
var seeds = []uint64{0, 1, 2, 7, 1 << 32, 1 << 63, math.MaxUint64}

// noNames are strings that are no names, also of lengths that are allowed in fewer bits.
var noNames = []string{
	"", strings.Repeat("n", api.MaxTag+1), strings.Repeat("\x00", api.MaxTag+1), strings.Repeat("é", api.MaxTag/2) + "n",
	strings.Repeat("n", 128), strings.Repeat("n", 1<<8), strings.Repeat("n", 1<<8+1), strings.Repeat("n", 1<<16), strings.Repeat("n", 1<<16+api.MaxTag),
}

// plain is a table after the definition, word by word: the names and their references by their numbers.
type plain struct {
	most  int
	names map[int]string
	refs  map[int]int
}

// clone returns a copy.
func (p plain) clone() plain { return plain{p.most, maps.Clone(p.names), maps.Clone(p.refs)} }

// isName reports whether a string is a name.
func isName(s string) bool { return len(s) >= 1 && len(s) <= 64 }

// find returns the number of a name.
func (p plain) find(name string) (int, api.Errno) {
	if !isName(name) {
		return 0, api.ErrArg
	}
	for n, s := range p.names {
		if s == name {
			return n, api.OK
		}
	}
	return 0, api.ErrNone
}

// add adds a reference to a name. Nothing has the greatest number of references here.
func (p plain) add(name string) (int, api.Errno) {
	n, e := p.find(name)
	switch {
	case e == api.ErrArg:
		return 0, e
	case e == api.ErrNone && len(p.names) == p.most:
		return 0, api.ErrFull
	case e == api.ErrNone:
		for n = 0; p.names[n] != ""; n++ {
		}
		p.names[n] = name
	}
	p.refs[n]++
	return n, api.OK
}

// release takes a reference away.
func (p plain) release(n int) (bool, api.Errno) {
	if p.refs[n] == 0 {
		return false, api.ErrNone
	}
	p.refs[n]--
	if p.refs[n] > 0 {
		return false, api.OK
	}
	delete(p.names, n)
	delete(p.refs, n)
	return true, api.OK
}

// name returns the name with a number.
func (p plain) name(n int) (string, api.Errno) {
	if s := p.names[n]; s != "" {
		return s, api.OK
	}
	return "", api.ErrNone
}

// references returns how many references there are to the name with a number.
func (p plain) references(n int) (int, api.Errno) {
	if k := p.refs[n]; k > 0 {
		return k, api.OK
	}
	return 0, api.ErrNone
}

// text says what a table after the definition is.
func (p plain) text() string { return fmt.Sprintf("%v %v of %d", p.names, p.refs, p.most) }

// open returns an empty table, and one after the definition.
func open(t *testing.T, most int, seed uint64) (*intern.Table, plain) {
	t.Helper()
	x, e := intern.New(most, seed)
	if x == nil || e != api.OK {
		t.Fatalf("New(%d, %d) = %v, %d", most, seed, x, e)
	}
	return x, plain{most, map[int]string{}, map[int]int{}}
}

// with returns a table with some names, to each of which there is one reference, and one after the definition.
func with(t *testing.T, most int, names ...string) (*intern.Table, plain) {
	t.Helper()
	x, p := open(t, most, 5)
	for _, s := range names {
		add(t, x, p, s)
	}
	return x, p
}

// add adds a reference to a name of both, and compares what is returned.
func add(t *testing.T, x *intern.Table, p plain, name string) {
	t.Helper()
	before := p.text()
	n, e := x.Add(name)
	if want, f := p.add(name); n != want || e != f {
		t.Fatalf("%s: Add(%.9q) = %d, %d, want %d, %d", before, name, n, e, want, f)
	}
}

// release takes a reference away from both, and compares what is returned.
func release(t *testing.T, x *intern.Table, p plain, n int) {
	t.Helper()
	before := p.text()
	gone, e := x.Release(n)
	if want, f := p.release(n); gone != want || e != f {
		t.Fatalf("%s: Release(%d) = %t, %d, want %t, %d", before, n, gone, e, want, f)
	}
}

// checkFind compares what Find returns.
func checkFind(t *testing.T, x *intern.Table, p plain, name string) {
	t.Helper()
	n, e := x.Find(name)
	if want, f := p.find(name); n != want || e != f {
		t.Fatalf("%s: Find(%.9q) = %d, %d, want %d, %d", p.text(), name, n, e, want, f)
	}
}

// checkNumber compares what Name and Refs return.
func checkNumber(t *testing.T, x *intern.Table, p plain, n int) {
	t.Helper()
	s, e := x.Name(n)
	if want, f := p.name(n); s != want || e != f {
		t.Fatalf("%s: Name(%d) = %.9q, %d, want %.9q, %d", p.text(), n, s, e, want, f)
	}
	k, e := x.Refs(n)
	if want, f := p.references(n); k != want || e != f {
		t.Fatalf("%s: Refs(%d) = %d, %d, want %d, %d", p.text(), n, k, e, want, f)
	}
}

// check compares a table with one after the definition, in all that it says of itself, also of some further names.
func check(t *testing.T, x *intern.Table, p plain, further ...string) {
	t.Helper()
	if n, most := x.Len(); n != len(p.names) || most != p.most {
		t.Fatalf("%s: Len = %d, %d", p.text(), n, most)
	}
	if l, want := x.Names(), slices.Sorted(maps.Values(p.names)); !slices.Equal(l, want) {
		t.Fatalf("%s: Names = %.9q, want %.9q", p.text(), l, want)
	}
	highest := 0
	for n, s := range p.names {
		checkFind(t, x, p, s)
		highest = max(highest, n)
	}
	for _, s := range further {
		checkFind(t, x, p, s)
	}
	for n := -1; n <= highest+2; n++ {
		checkNumber(t, x, p, n)
	}
}

// numbers returns numbers that look like random ones, each from 0 to below a bound.
func numbers(seed uint64) func(below int) int {
	return func(below int) int {
		seed = seed*6364136223846793005 + 1442695040888963407
		return int((seed >> 33) % uint64(below))
	}
}

// name returns a name by its number.
func name(i int) string { return fmt.Sprint("n", i) }

// eachOrder calls a function with the numbers below a bound in each order.
func eachOrder(below int, f func([]int)) {
	var from func(l []int)
	from = func(l []int) {
		if len(l) == below {
			f(l)
			return
		}
		for i := range below {
			if !slices.Contains(l, i) {
				from(append(slices.Clone(l), i))
			}
		}
	}
	from(nil)
}

// P15.1, P15.2, P15.3: the examples of the chapter.
func TestExamples(t *testing.T) {
	x, e := intern.New(3, 5)
	if e != api.OK {
		t.Fatal(e)
	}
	type result struct {
		n int
		e api.Errno
	}
	calls := func(want []result, calls ...func() (int, api.Errno)) {
		t.Helper()
		for i, f := range calls {
			if n, e := f(); n != want[i].n || e != want[i].e {
				t.Fatalf("call %d: %d, %d, want %v", i, n, e, want[i])
			}
		}
	}
	add := func(s string) func() (int, api.Errno) { return func() (int, api.Errno) { return x.Add(s) } }
	find := func(s string) func() (int, api.Errno) { return func() (int, api.Errno) { return x.Find(s) } }
	refs := func(n int) func() (int, api.Errno) { return func() (int, api.Errno) { return x.Refs(n) } }
	release := func(n int) func() (int, api.Errno) {
		return func() (int, api.Errno) {
			gone, e := x.Release(n)
			return map[bool]int{true: 1}[gone], e
		}
	}
	calls([]result{{0, 0}, {1, 0}, {0, 0}, {2, 0}, {0, 0}, {1, 0}, {0, api.ErrNone}},
		add("red"), add("blue"), add("red"), refs(0), release(0), release(0), find("red"))
	calls([]result{{0, 0}, {2, 0}, {0, api.ErrFull}}, add("green"), add("gold"), add("pink"))
	if s, e := x.Name(2); s != "gold" || e != api.OK {
		t.Error(s, e)
	}
	if l := x.Names(); !slices.Equal(l, []string{"blue", "gold", "green"}) {
		t.Error(l)
	}
	if n, most := x.Len(); n != 3 || most != 3 {
		t.Error(n, most)
	}
	calls([]result{{0, api.ErrNone}, {0, api.ErrNone}, {0, api.ErrArg}, {0, api.ErrArg}},
		release(3), release(-1), add(""), find(strings.Repeat("n", 65)))
	if s, e := x.Name(7); s != "" || e != api.ErrNone {
		t.Error(s, e)
	}
	for _, most := range []int{0, 65537} {
		if x, e := intern.New(most, 5); x != nil || e != api.ErrArg {
			t.Error(x, e)
		}
	}
}

// P15.1: New takes each maximum from 1 to MaxNames, with each seed, and nothing else, also what is allowed in fewer bits.
func TestNew(t *testing.T) {
	if intern.MaxNames != 65536 {
		t.Errorf("MaxNames = %d", intern.MaxNames)
	}
	for _, most := range []int{1, 2, 3, 255, 256, 257, 32767, 32768, 65535, 65536} {
		for _, seed := range seeds {
			x, p := open(t, most, seed)
			check(t, x, p, "a", "")
			add(t, x, p, "a")
			check(t, x, p, "a", "b")
		}
	}
	for _, most := range []int{0, -1, -2, -65536, 65537, 65538, 1 << 17, 1 << 31, 1<<31 + 1, 1 << 32, 1<<32 + 1, 1<<32 + 65536, math.MaxInt, math.MinInt, math.MinInt + 1, 1 - 1<<32} {
		for _, seed := range seeds {
			if x, e := intern.New(most, seed); x != nil || e != api.ErrArg {
				t.Errorf("New(%d, %d) = %v, %d", most, seed, x, e)
			}
		}
	}
}

// P15.1, P15.2: names are of 1 to MaxTag bytes, of any bytes, and different if one byte is.
func TestNames(t *testing.T) {
	var l []string
	for size := 1; size <= api.MaxTag; size++ {
		l = append(l, strings.Repeat("n", size), strings.Repeat("\x00", size))
	}
	for c := range 256 {
		l = append(l, string([]byte{byte(c), 'x'}), string([]byte{'x', byte(c)}), strings.Repeat("m", api.MaxTag-1)+string([]byte{byte(c)}))
	}
	l = append(l, "é", "e\u0301", "É", "N", " n", "n ", "\n", "n\x00")
	slices.Sort(l)
	l = slices.Compact(l)
	x, p := with(t, len(l), l...)
	check(t, x, p, "y", "\xff\xff")
	for _, s := range l {
		add(t, x, p, s)
	}
	check(t, x, p, "y", "\xff\xff")
}

// P15.1, P15.2: Add and Find take no string that is no name, and nothing changes then; that comes before all but that there is no table.
func TestNoNames(t *testing.T) {
	for _, most := range []int{1, 2, 3} {
		x, p := with(t, most, "a", "a")
		for _, s := range noNames {
			if n, e := x.Add(s); n != 0 || e != api.ErrArg {
				t.Errorf("Add of %d bytes = %d, %d", len(s), n, e)
			}
			if n, e := x.Find(s); n != 0 || e != api.ErrArg {
				t.Errorf("Find of %d bytes = %d, %d", len(s), n, e)
			}
			check(t, x, p)
		}
		add(t, x, p, "b")
		add(t, x, p, "c")
		check(t, x, p)
	}
}

// P15.1, P15.2: Release, Name and Refs return an error for a number that no name has, also if it is that of a name in fewer bits.
func TestNoNumbers(t *testing.T) {
	x, p := with(t, 5, "a", "b", "c", "d", "b")
	release(t, x, p, 2)
	wrong := []int{2, 4, 5, 6, 7, -1, -2, -3, -4, -5, math.MaxInt, math.MinInt, math.MinInt + 1, intern.MaxNames, intern.MaxNames - 1}
	for _, size := range []int{8, 16, 31, 32, 63} {
		for n := range 4 {
			wrong = append(wrong, n+1<<size, n-1<<size)
		}
	}
	for _, n := range wrong {
		if gone, e := x.Release(n); gone || e != api.ErrNone {
			t.Errorf("Release(%d) = %t, %d", n, gone, e)
		}
		if s, e := x.Name(n); s != "" || e != api.ErrNone {
			t.Errorf("Name(%d) = %q, %d", n, s, e)
		}
		if k, e := x.Refs(n); k != 0 || e != api.ErrNone {
			t.Errorf("Refs(%d) = %d, %d", n, k, e)
		}
		check(t, x, p, "c")
	}
	empty, q := open(t, 5, 5)
	for n := -2; n < 7; n++ {
		release(t, empty, q, n)
		checkNumber(t, empty, q, n)
	}
	check(t, empty, q)
}

// P15.1: the lowest number that no name has is given, in whichever order names are forgotten, and however many of them.
func TestLowestNumber(t *testing.T) {
	const count = 6
	eachOrder(count, func(l []int) {
		for k := range count + 1 {
			x, p := with(t, count+2)
			for i := range count {
				add(t, x, p, name(i))
			}
			for _, n := range l[:k] {
				release(t, x, p, n)
			}
			free := slices.Sorted(slices.Values(append(slices.Clone(l[:k]), count, count+1)))
			for i, want := range free {
				if n, e := x.Add(name(count + i)); n != want || e != api.OK {
					t.Fatalf("without %v, Add %d = %d, %d, want %d", l[:k], i, n, e, want)
				}
				p.add(name(count + i))
			}
			check(t, x, p, name(l[0]), name(count+len(free)))
		}
	})
}

// P15.1: numbers are given again as names come and go in turn, some in between.
func TestToAndFro(t *testing.T) {
	x, p := with(t, 4, "a", "b", "c", "d")
	for i := range 100 {
		for _, n := range []int{i % 4, (i + 1) % 4, (i + i/7) % 4} {
			release(t, x, p, n)
			check(t, x, p, "a", name(i), name(i-1))
		}
		for k := range 3 {
			add(t, x, p, name(3*i+k))
			check(t, x, p, "a", name(3*i+k))
		}
	}
}

// P15.1: with as many names as there may be no other one is taken, but those that are there, and another one as soon as one is forgotten.
func TestFull(t *testing.T) {
	for most := 1; most <= 20; most++ {
		x, p := open(t, most, 5)
		for i := range most {
			add(t, x, p, name(i))
		}
		for turn := range most {
			for i := range most + 2 {
				n, e := x.Add(name(turn + i))
				if want, f := p.add(name(turn + i)); n != want || e != f || (e == api.ErrFull) != (i >= most) {
					t.Fatalf("%s: Add(%s) = %d, %d, want %d, %d", p.text(), name(turn+i), n, e, want, f)
				}
			}
			check(t, x, p, name(turn+most))
			n, _ := p.find(name(turn))
			for p.refs[n] > 0 {
				add(t, x, p, name(turn+most))
				release(t, x, p, n)
			}
			add(t, x, p, name(turn+most))
			check(t, x, p, name(turn))
		}
	}
}

// P15.1, P15.2, P15.4: a name is forgotten with its last reference, and not before, and keeps its number until then.
func TestRefs(t *testing.T) {
	for _, count := range []int{1, 2, 3, 255, 256, 257, 65535, 65536, 65537, 1 << 20} {
		x, p := with(t, 3, "a", "b", "c")
		for i := 1; i < count; i++ {
			if n, e := x.Add("b"); n != 1 || e != api.OK {
				t.Fatalf("Add = %d, %d", n, e)
			}
		}
		p.refs[1] = count
		check(t, x, p)
		for i := range count {
			if k, e := x.Refs(1); k != count-i || e != api.OK {
				t.Fatalf("Refs = %d, %d, want %d", k, e, count-i)
			}
			if gone, e := x.Release(1); gone != (i == count-1) || e != api.OK {
				t.Fatalf("Release = %t, %d with %d references", gone, e, count-i)
			}
		}
		delete(p.names, 1)
		delete(p.refs, 1)
		check(t, x, p, "b")
	}
}

// P15.1: there are 2^31 - 1 references to a name at most. There is no shorter way to them than to add each.
func TestMostRefs(t *testing.T) {
	if testing.Short() {
		t.Skip("takes long")
	}
	t.Parallel()
	x, p := with(t, 3, "b", "a")
	for range math.MaxInt32 - 1 {
		x.Add("a")
	}
	p.refs[1] = math.MaxInt32
	check(t, x, p, "c")
	for _, y := range []*intern.Table{x, x.Copy()} {
		for range 3 {
			if n, e := y.Add("a"); n != 0 || e != api.ErrFull {
				t.Fatalf("Add = %d, %d", n, e)
			}
			check(t, y, p, "c")
		}
		q := p.clone()
		add(t, y, q, "b")
		add(t, y, q, "c")
		release(t, y, q, 1)
		check(t, y, q)
		add(t, y, q, "a")
		check(t, y, q)
		if n, e := y.Add("a"); n != 0 || e != api.ErrFull {
			t.Fatalf("Add = %d, %d", n, e)
		}
		check(t, y, q)
	}
	check(t, x, plain{3, map[int]string{0: "b", 1: "a", 2: "c"}, map[int]int{0: 2, 1: math.MaxInt32, 2: 1}})
}

// sameHash are names with one hash, whatever the seed.
func sameHash(t *testing.T, count int) (l []string) {
	t.Helper()
	for i := range count {
		l = append(l, string([]byte{byte('a' + i), byte(200 - 31*i)}))
	}
	for _, s := range l {
		for _, seed := range seeds {
			if hash.Sum(seed, s) != hash.Sum(seed, l[0]) {
				t.Fatalf("%q and %q have different hashes", s, l[0])
			}
		}
	}
	return l
}

// P15.1, P15.2: names with the same hash are told apart, in whichever order they are forgotten, and come again.
func TestSameHash(t *testing.T) {
	l := sameHash(t, 5)
	eachOrder(len(l), func(order []int) {
		x, p := with(t, 8, l...)
		for _, n := range order {
			release(t, x, p, n)
			check(t, x, p, l...)
		}
		for i, n := range order {
			add(t, x, p, l[n])
			if i == 2 {
				release(t, x, p, 1)
			}
			check(t, x, p, l...)
		}
	})
	further := sameHash(t, 7)[5:]
	x, p := with(t, 6, l...)
	for _, s := range further {
		checkFind(t, x, p, s)
		add(t, x, p, s)
		check(t, x, p, further...)
	}
}

// P15.1, P15.2: forgetting one name loses no other one, with each number of names around those at which something may grow.
func TestForgetEach(t *testing.T) {
	for _, count := range []int{1, 2, 3, 4, 5, 7, 8, 9, 15, 16, 17, 31, 32, 33, 63, 64, 65} {
		for n := range count {
			x, p := open(t, count, uint64(n))
			for i := range count {
				add(t, x, p, name(i))
			}
			check(t, x, p, name(count))
			release(t, x, p, n)
			check(t, x, p, name(n), name(count))
			add(t, x, p, name(count))
			check(t, x, p, name(n))
		}
	}
}

// step makes a step with both: three names are added, and three numbers released.
func step(t *testing.T, x *intern.Table, p plain, n int) {
	t.Helper()
	if n < 3 {
		add(t, x, p, []string{"a", "b", "ab"}[n])
	} else {
		release(t, x, p, n-3)
	}
	check(t, x, p, "a", "b", "ab")
}

// P15.1 to P15.4: all ways of six steps, with three names and each maximum, go as the definition says, and those that go on with copies leave the others alone.
func TestAfterDefinition(t *testing.T) {
	for most := 1; most <= 3; most++ {
		var from func(x *intern.Table, p plain, steps int)
		from = func(x *intern.Table, p plain, steps int) {
			if steps == 0 {
				return
			}
			for n := range 6 {
				y, q := x.Copy(), p.clone()
				step(t, y, q, n)
				from(y, q, steps-1)
			}
			check(t, x, p, "a", "b", "ab")
		}
		x, p := open(t, most, 5)
		from(x, p, 6)
	}
}

// P15.1 to P15.4: long runs go as the definition says, with more names or fewer, that are often there or seldom.
func TestLongRuns(t *testing.T) {
	for i, run := range []struct{ most, names, adds, steps int }{
		{1, 3, 5, 2000}, {3, 5, 5, 3000}, {8, 12, 6, 3000}, {17, 20, 6, 3000}, {40, 200, 7, 2000}, {100, 90, 6, 2000}, {300, 400, 8, 1500},
	} {
		next := numbers(uint64(i))
		x, p := open(t, run.most, uint64(i))
		for range run.steps {
			if s := name(next(run.names)); next(10) < run.adds {
				add(t, x, p, s)
			} else {
				release(t, x, p, next(run.most+1))
			}
			check(t, x, p, name(next(run.names)), noNames[next(len(noNames))])
			if next(50) == 0 {
				x = x.Copy()
			}
		}
	}
}

// P15.4: Find and Name invert each other, a name keeps its number, no number reaches the greatest number of names that were there together, and the references are as many as were added and not taken away.
func TestConsequences(t *testing.T) {
	for i, most := range []int{1, 2, 10, 100, 65536} {
		next := numbers(uint64(most))
		x, _ := open(t, most, uint64(i))
		numberOf, refs := map[string]int{}, map[string]int{}
		greatest := 0
		for range 20000 {
			s := name(next(200))
			if n, e := x.Find(s); next(5) < 2 && e == api.OK {
				gone, e := x.Release(n)
				refs[s]--
				if e != api.OK || gone != (refs[s] == 0) {
					t.Fatalf("Release(%d) = %t, %d, with %d references left", n, gone, e, refs[s])
				}
				continue
			}
			n, e := x.Add(s)
			if e == api.ErrFull && refs[s] == 0 {
				continue
			}
			if k, there := numberOf[s]; e != api.OK || there && refs[s] > 0 && n != k {
				t.Fatalf("Add(%s) = %d, %d, and was %d", s, n, e, k)
			}
			numberOf[s] = n
			refs[s]++
			count, _ := x.Len()
			greatest = max(greatest, count)
			if n >= greatest {
				t.Fatalf("the number %d, and %d names at most", n, greatest)
			}
			checkInverse(t, x, numberOf, refs)
		}
	}
}

// checkInverse checks the names and numbers of a table against those that are known.
func checkInverse(t *testing.T, x *intern.Table, numberOf, refs map[string]int) {
	t.Helper()
	l := x.Names()
	sum := 0
	for _, s := range l {
		n, e := x.Find(s)
		back, f := x.Name(n)
		k, g := x.Refs(n)
		if e != api.OK || f != api.OK || g != api.OK || back != s || n != numberOf[s] || k != refs[s] {
			t.Fatalf("%s has the number %d, that of %s, with %d references, want %d with %d", s, n, back, k, numberOf[s], refs[s])
		}
		sum += k
	}
	for _, k := range refs {
		sum -= k
	}
	if count, _ := x.Len(); sum != 0 || count != len(l) {
		t.Fatalf("Len = %d with %d names, and %d references too many", count, len(l), sum)
	}
}

// P15.1: the seed changes no result.
func TestSeeds(t *testing.T) {
	for _, seed := range seeds {
		x, p := open(t, 50, seed)
		next := numbers(3)
		for i := range 3000 {
			if s := name(next(80)); next(3) < 2 {
				add(t, x, p, s)
			} else {
				release(t, x, p, next(50))
			}
			if i%50 == 0 {
				check(t, x, p, name(next(80)))
			}
		}
	}
}

// P15.3: names are in the order of their bytes, whatever their numbers are.
func TestOrder(t *testing.T) {
	want := []string{"\x00", "\x00\x00", "\x01", "A", "B", "Z", "a", "a\x00", "a ", "aa", "ab", "b", "z", "\x7f", "\x80", "é", "\xff", "\xff\xff"}
	for turn := range 50 {
		next := numbers(uint64(turn))
		l := slices.Clone(want)
		for i := range l {
			k := i + next(len(l)-i)
			l[i], l[k] = l[k], l[i]
		}
		x, p := with(t, 40, l...)
		if got := x.Names(); !slices.Equal(got, want) {
			t.Fatalf("Names = %q", got)
		}
		for n := turn % 2; n < len(l); n += 2 {
			release(t, x, p, n)
		}
		check(t, x, p, want...)
	}
}

// P15.3: the names that are returned may be changed, also beyond their end, and another list is another one.
func TestNamesAreNew(t *testing.T) {
	x, p := with(t, 5, "a", "b", "c", "d", "e")
	release(t, x, p, 2)
	l, m := x.Names(), x.Names()
	for i := range l {
		l[i] = "spoiled"
	}
	l = append(l[:0:cap(l)], "x", "y", "z", "u", "v")
	_ = append(l[:1], "w")
	if !slices.Equal(m, []string{"a", "b", "d", "e"}) {
		t.Errorf("Names = %q", m)
	}
	check(t, x, p, "spoiled", "x", "c")
}

// P15.3: names that were returned stay as they are when others come.
func TestNamesStay(t *testing.T) {
	x, p := with(t, 5, "a", "b", "c")
	l := x.Names()
	s, _ := x.Name(1)
	release(t, x, p, 1)
	add(t, x, p, "d")
	if !slices.Equal(l, []string{"a", "b", "c"}) || s != "b" {
		t.Errorf("Names was %q, Name %q", l, s)
	}
	check(t, x, p, "b")
}

// P15.3: a copy has all of a table, and then goes on by itself, as the table does.
func TestCopy(t *testing.T) {
	for count := range 18 {
		for free := range count + 1 {
			x, p := open(t, 20, 5)
			for i := range count {
				add(t, x, p, name(i))
				add(t, x, p, name(i))
			}
			for i := range free {
				n := (i*7 + 3) % count
				for p.refs[n] > 0 {
					release(t, x, p, n)
				}
				if i == 2 {
					add(t, x, p, name(i))
				}
			}
			y, q := x.Copy(), p.clone()
			check(t, y, q)
			goOn(t, x, p, 100)
			check(t, y, q, name(100))
			goOn(t, y, q, 200)
			check(t, x, p, name(200))
		}
	}
}

// goOn makes some steps of all kinds with both, with names from a number on.
func goOn(t *testing.T, x *intern.Table, p plain, from int) {
	t.Helper()
	for i := range 4 {
		add(t, x, p, name(from+i))
		release(t, x, p, 2*i)
		release(t, x, p, 2*i)
		add(t, x, p, name(i))
		add(t, x, p, name(from+10+i))
	}
	check(t, x, p, name(from), name(from+20))
}

// P15.3: several copies that go on in turn do not meet.
func TestCopiesInTurn(t *testing.T) {
	x, p := with(t, 30, "a", "b", "c", "d", "e")
	release(t, x, p, 1)
	release(t, x, p, 3)
	tables, models := []*intern.Table{x}, []plain{p}
	for i := range 3 {
		tables, models = append(tables, tables[i].Copy()), append(models, models[i].clone())
	}
	next := numbers(9)
	for range 2000 {
		i := next(len(tables))
		if s := name(next(40)); next(2) == 0 {
			add(t, tables[i], models[i], s)
		} else {
			release(t, tables[i], models[i], next(30))
		}
		for k := range tables {
			check(t, tables[k], models[k], name(next(40)))
		}
	}
}

// P15.1 to P15.3: a nil and a zero table return that they are none, before all else, and nothing from the others.
func TestNilAndZero(t *testing.T) {
	var none *intern.Table
	for i, x := range []*intern.Table{none, {}, new(intern.Table)} {
		for range 2 {
			for _, s := range append(slices.Clone(noNames), "a", strings.Repeat("n", api.MaxTag)) {
				if n, e := x.Add(s); n != 0 || e != api.ErrNil {
					t.Errorf("%d: Add = %d, %d", i, n, e)
				}
				if n, e := x.Find(s); n != 0 || e != api.ErrNil {
					t.Errorf("%d: Find = %d, %d", i, n, e)
				}
			}
			for _, n := range []int{0, 1, -1, 65536, math.MaxInt, math.MinInt} {
				if gone, e := x.Release(n); gone || e != api.ErrNil {
					t.Errorf("%d: Release = %t, %d", i, gone, e)
				}
				if s, e := x.Name(n); s != "" || e != api.ErrNil {
					t.Errorf("%d: Name = %q, %d", i, s, e)
				}
				if k, e := x.Refs(n); k != 0 || e != api.ErrNil {
					t.Errorf("%d: Refs = %d, %d", i, k, e)
				}
			}
			if n, most := x.Len(); n != 0 || most != 0 || len(x.Names()) != 0 || x.Copy() != nil {
				t.Errorf("%d: Len = %d, %d, Names = %q, Copy = %v", i, n, most, x.Names(), x.Copy())
			}
		}
	}
}

// P15.1, P15.4: as many names as there may be have all numbers, in whichever order they come and go.
func TestMany(t *testing.T) {
	x, _ := open(t, intern.MaxNames, 5)
	for i := range intern.MaxNames {
		if n, e := x.Add(name(i)); n != i || e != api.OK {
			t.Fatalf("Add(%s) = %d, %d", name(i), n, e)
		}
	}
	if n, e := x.Add("another"); n != 0 || e != api.ErrFull {
		t.Errorf("Add = %d, %d", n, e)
	}
	if n, e := x.Add(name(intern.MaxNames - 1)); n != intern.MaxNames-1 || e != api.OK {
		t.Errorf("Add = %d, %d", n, e)
	}
	x.Release(intern.MaxNames - 1)
	for i, at := range []func(int) int{
		func(i int) int { return i },
		func(i int) int { return intern.MaxNames - 1 - i },
		func(i int) int { return i * 40503 % intern.MaxNames },
	} {
		y := x.Copy()
		for k := range intern.MaxNames {
			if gone, e := y.Release(at(k)); !gone || e != api.OK {
				t.Fatalf("order %d: Release(%d) = %t, %d", i, at(k), gone, e)
			}
			if n, _ := y.Len(); n != intern.MaxNames-1-k {
				t.Fatalf("order %d: Len = %d after %d", i, n, k+1)
			}
		}
		for k := range intern.MaxNames {
			if n, e := y.Add(name(at(k))); n != k || e != api.OK {
				t.Fatalf("order %d: Add(%s) = %d, %d, want %d", i, name(at(k)), n, e, k)
			}
		}
		checkMany(t, y, at)
	}
	checkMany(t, x, func(i int) int { return i })
}

// checkMany checks a table with as many names as there may be.
func checkMany(t *testing.T, x *intern.Table, at func(int) int) {
	t.Helper()
	var want []string
	for n := range intern.MaxNames {
		s, e := x.Name(n)
		back, f := x.Find(s)
		if s != name(at(n)) || e != api.OK || back != n || f != api.OK {
			t.Fatalf("Name(%d) = %s, %d, want %s, which has the number %d, %d", n, s, e, name(at(n)), back, f)
		}
		want = append(want, s)
	}
	slices.Sort(want)
	if !slices.Equal(x.Names(), want) {
		t.Error("Names are others")
	}
}

// held returns how many bytes are held now.
func held() int {
	var m runtime.MemStats
	runtime.GC()
	runtime.ReadMemStats(&m)
	return int(m.HeapAlloc)
}

// Rules: of an argument nothing is kept, not even what the name is a part of.
func TestArgumentsAreNotKept(t *testing.T) {
	x, _ := open(t, 100, 5)
	before := held()
	for i := range 50 {
		long := strings.Repeat(string(rune('A'+i)), 1<<20)
		x.Add(long[:3])
		x.Add(long[5:7])
		x.Find(long[:1])
	}
	if after := held(); after > before+10<<20 {
		t.Errorf("%d bytes more are held", after-before)
	}
	runtime.KeepAlive(x)
}

// P15.1: nothing is kept of names that are forgotten, and a table stays small, however many names there were one after the other.
func TestForgottenIsNotKept(t *testing.T) {
	x, _ := open(t, intern.MaxNames, 5)
	for i := range intern.MaxNames {
		x.Add(fmt.Sprintf("%64d", i))
	}
	full := held()
	for i := range intern.MaxNames {
		x.Release(i)
	}
	empty := held()
	if empty > full-intern.MaxNames*40 {
		t.Errorf("of %d bytes %d are left", full, empty)
	}
	for i := range 1 << 18 {
		n, _ := x.Add(fmt.Sprintf("%64d", i))
		x.Release(n)
	}
	if after := held(); after > empty+1<<20 {
		t.Errorf("%d bytes more are held", after-empty)
	}
	runtime.KeepAlive(x)
}

// P1, Rules: equal calls on tables in equal states have equal results, and what only asks changes nothing.
func TestAgain(t *testing.T) {
	x, p := with(t, 9, "a", "b", "c", "d", "b", "b")
	release(t, x, p, 0)
	for range 5 {
		check(t, x, p, "a", "e", "")
		release(t, x, p, 0)
		release(t, x, p, 4)
		checkFind(t, x, p, "a")
	}
	y := x.Copy()
	n, e := x.Add("e")
	m, f := y.Add("e")
	if n != m || e != f || !slices.Equal(x.Names(), y.Names()) {
		t.Errorf("Add = %d, %d and %d, %d", n, e, m, f)
	}
}
