package table_test

import (
	"math"
	"slices"
	"strings"
	"testing"

	"tagcache/api"
	"tagcache/hash"
	"tagcache/table"
)

// seeds are those with which most tests are done: the ends, and some that differ in few bits.
var seeds = []uint64{0, 1, 2, 7, 1 << 32, 1 << 63, math.MaxUint64}

// numbers are those that a key may have, up to the end.
var numbers = []int{0, 1, 7, 255, 256, math.MaxInt32, math.MaxInt32 + 1, 1 << 32, 1<<32 + 1, math.MaxInt - 1, math.MaxInt}

// wrongNumbers are those that no key may have.
var wrongNumbers = []int{-1, -2, -256, math.MinInt32, -1 << 32, math.MinInt + 1, math.MinInt}

// wrongKeys are strings that are no keys.
var wrongKeys = []string{"", strings.Repeat("k", api.MaxKey+1), strings.Repeat("\x00", api.MaxKey+1), strings.Repeat("k", 1<<8), strings.Repeat("k", 1<<8+1), strings.Repeat("k", 1<<16+1)}

// home returns the home of a key, without the package that is tested.
func home(seed uint64, k string, size int) int { return int(hash.Sum(seed, k) % uint64(size)) }

// keyAt returns a key whose home in 8 cells is a certain one; each turn gives another key.
func keyAt(t *testing.T, seed uint64, at, turn int) string {
	t.Helper()
	for i := range 1 << 16 {
		k := string([]byte{byte(i), byte(i >> 8)})
		if home(seed, k, table.MinSize) != at {
			continue
		}
		if turn == 0 {
			return k
		}
		turn--
	}
	t.Fatalf("no key with the home %d", at)
	return ""
}

// name returns a key by its number.
func name(i int) string { return string([]byte{byte(i), byte(i >> 8), byte(i >> 16)}) }

// put puts in a key that is not there.
func put(t *testing.T, x *table.Table, k string, n int) {
	t.Helper()
	if e := x.Put(k, n); e != api.OK {
		t.Fatalf("Put(%q, %d) = %d", k, n, e)
	}
}

// del takes out a key with a number.
func del(t *testing.T, x *table.Table, k string, want int) {
	t.Helper()
	if n, e := x.Del(k); n != want || e != api.OK {
		t.Fatalf("Del(%q) = %d, %d, want %d", k, n, e, want)
	}
}

// checkGet compares the number of a key that is there with what it should be.
func checkGet(t *testing.T, x *table.Table, k string, want int) {
	t.Helper()
	if n, e := x.Get(k); n != want || e != api.OK {
		t.Fatalf("Get(%q) = %d, %d, want %d", k, n, e, want)
	}
}

// checkFails checks that no call with a key does anything but return an error; Put has its own one.
func checkFails(t *testing.T, x *table.Table, k string, n int, want, wantPut api.Errno) {
	t.Helper()
	before := x.Copy()
	if e := x.Put(k, n); e != wantPut {
		t.Fatalf("Put(%q, %d) = %d, want %d", k, n, e, wantPut)
	}
	if m, e := x.Set(k, n); m != 0 || e != want {
		t.Fatalf("Set(%q, %d) = %d, %d, want %d", k, n, m, e, want)
	}
	checkSame(t, x, before)
}

// checkNoKey checks that a key cannot be found and taken out.
func checkNoKey(t *testing.T, x *table.Table, k string, want api.Errno) {
	t.Helper()
	before := x.Copy()
	if n, e := x.Get(k); n != 0 || e != want {
		t.Fatalf("Get(%q) = %d, %d, want %d", k, n, e, want)
	}
	if n, e := x.Del(k); n != 0 || e != want {
		t.Fatalf("Del(%q) = %d, %d, want %d", k, n, e, want)
	}
	checkSame(t, x, before)
}

// checkSame compares all that two tables say of themselves.
func checkSame(t *testing.T, x, y *table.Table) {
	t.Helper()
	keys, numbers := x.Cells()
	wantKeys, wantNumbers := y.Cells()
	if x.Len() != y.Len() || x.Size() != y.Size() || !slices.Equal(keys, wantKeys) || !slices.Equal(numbers, wantNumbers) {
		t.Fatalf("a table has %d keys in %d cells: %q %d, another one %d in %d: %q %d", x.Len(), x.Size(), keys, numbers, y.Len(), y.Size(), wantKeys, wantNumbers)
	}
}

// checkLen compares how many keys and cells there are with what it should be.
func checkLen(t *testing.T, x *table.Table, keys, size int) {
	t.Helper()
	if x.Len() != keys || x.Size() != size {
		t.Fatalf("Len, Size = %d, %d, want %d, %d", x.Len(), x.Size(), keys, size)
	}
}

// checkKeys compares the keys of all cells with what they should be.
func checkKeys(t *testing.T, x *table.Table, want ...string) {
	t.Helper()
	if keys, _ := x.Cells(); !slices.Equal(keys, want) {
		t.Fatalf("Cells = %q, want %q", keys, want)
	}
}

// plain is a table after the definition, word by word: the keys of the cells, an empty string for a free one, and the numbers.
type plain struct {
	seed    uint64
	keys    []string
	numbers []int
}

// newPlain returns an empty table.
func newPlain(seed uint64) *plain {
	return &plain{seed: seed, keys: make([]string, 8), numbers: make([]int, 8)}
}

// clone returns a copy.
func (p *plain) clone() *plain {
	return &plain{seed: p.seed, keys: slices.Clone(p.keys), numbers: slices.Clone(p.numbers)}
}

// count returns how many keys there are.
func (p *plain) count() (n int) {
	for _, k := range p.keys {
		if k != "" {
			n++
		}
	}
	return n
}

// next returns the next cell: that of the last one is 0.
func (p *plain) next(i int) int {
	if i == len(p.keys)-1 {
		return 0
	}
	return i + 1
}

// place puts a key into the first free cell from its home on.
func (p *plain) place(k string, n int) {
	i := home(p.seed, k, len(p.keys))
	for p.keys[i] != "" {
		i = p.next(i)
	}
	p.keys[i], p.numbers[i] = k, n
}

// move moves all keys to a table of another size, in the order of their cells.
func (p *plain) move(size int) {
	keys, numbers := p.keys, p.numbers
	p.keys, p.numbers = make([]string, size), make([]int, size)
	for i, k := range keys {
		if k != "" {
			p.place(k, numbers[i])
		}
	}
}

// put puts in a key.
func (p *plain) put(k string, n int) api.Errno {
	if slices.Contains(p.keys, k) {
		return api.ErrExists
	}
	if 4*(p.count()+1) > 3*len(p.keys) {
		p.move(2 * len(p.keys))
	}
	p.place(k, n)
	return api.OK
}

// set gives a key another number.
func (p *plain) set(k string, n int) (int, api.Errno) {
	i := slices.Index(p.keys, k)
	if i < 0 {
		return 0, api.ErrNone
	}
	before := p.numbers[i]
	p.numbers[i] = n
	return before, api.OK
}

// get returns the number of a key.
func (p *plain) get(k string) (int, api.Errno) {
	i := slices.Index(p.keys, k)
	if i < 0 {
		return 0, api.ErrNone
	}
	return p.numbers[i], api.OK
}

// meets reports whether the hole is met on the way from the home of the key in a cell to this cell.
func (p *plain) meets(hole, cell int) bool {
	for i := home(p.seed, p.keys[cell], len(p.keys)); i != cell; i = p.next(i) {
		if i == hole {
			return true
		}
	}
	return false
}

// del takes a key out.
func (p *plain) del(k string) (int, api.Errno) {
	hole := slices.Index(p.keys, k)
	if hole < 0 {
		return 0, api.ErrNone
	}
	n := p.numbers[hole]
	for i := p.next(hole); p.keys[i] != ""; i = p.next(i) {
		if p.meets(hole, i) {
			p.keys[hole], p.numbers[hole] = p.keys[i], p.numbers[i]
			hole = i
		}
	}
	p.keys[hole], p.numbers[hole] = "", 0
	if len(p.keys) > 8 && 8*p.count() < len(p.keys) {
		p.move(len(p.keys) / 2)
	}
	return n, api.OK
}

// checkPlain compares a table with one after the definition.
func checkPlain(t *testing.T, x *table.Table, p *plain) {
	t.Helper()
	keys, numbers := x.Cells()
	if x.Len() != p.count() || x.Size() != len(p.keys) || !slices.Equal(keys, p.keys) || !slices.Equal(numbers, p.numbers) {
		t.Fatalf("seed %d: Len, Size, Cells = %d, %d, %q, %d, want %d, %d, %q, %d", p.seed, x.Len(), x.Size(), keys, numbers, p.count(), len(p.keys), p.keys, p.numbers)
	}
}

// checkShape checks what P10.3 says of a table: how full it is, that no key is twice there, that each key is found, and that no cell is free from its home to its cell.
func checkShape(t *testing.T, x *table.Table, seed uint64) {
	t.Helper()
	keys, numbers := x.Cells()
	if 4*x.Len() > 3*x.Size() || x.Size() != table.MinSize && 8*x.Len() < x.Size() || x.Size() < table.MinSize || x.Size()&(x.Size()-1) != 0 || len(keys) != x.Size() || len(numbers) != x.Size() {
		t.Fatalf("%d keys in %d cells, of which Cells returns %d and %d", x.Len(), x.Size(), len(keys), len(numbers))
	}
	there := map[string]bool{}
	for at, k := range keys {
		if k == "" {
			if numbers[at] != 0 {
				t.Fatalf("the free cell %d has the number %d", at, numbers[at])
			}
			continue
		}
		there[k] = true
		checkGet(t, x, k, numbers[at])
		for i := home(seed, k, len(keys)); i != at; i = (i + 1) % len(keys) {
			if keys[i] == "" {
				t.Fatalf("seed %d: the cell %d is free before the cell %d of %q: %q", seed, i, at, k, keys)
			}
		}
	}
	if len(there) != x.Len() {
		t.Fatalf("%d different keys, but Len = %d", len(there), x.Len())
	}
}

// random returns numbers that look like random ones, but are the same each time.
func random(state uint64) func(below int) int {
	return func(below int) int {
		state = state*6364136223846793005 + 1442695040888963407
		return int(state >> 33 % uint64(below))
	}
}

// P10.1, P10.2: the examples of the chapter.
func TestExamples(t *testing.T) {
	x := table.New(0)
	put(t, x, "a", 5)
	if e := x.Put("a", 6); e != api.ErrExists {
		t.Errorf("Put(a, 6) = %d", e)
	}
	checkGet(t, x, "a", 5)
	checkNoKey(t, x, "b", api.ErrNone)
	if n, e := x.Set("a", 7); n != 5 || e != api.OK {
		t.Errorf("Set(a, 7) = %d, %d", n, e)
	}
	checkGet(t, x, "a", 7)
	checkLen(t, x, 1, 8)
	put(t, x, "\x00", 9)
	checkKeys(t, x, "", "\x00", "a", "", "", "", "", "")
	if _, numbers := x.Cells(); !slices.Equal(numbers, []int{0, 9, 7, 0, 0, 0, 0, 0}) {
		t.Errorf("the numbers of Cells = %d", numbers)
	}
	del(t, x, "a", 7)
	checkNoKey(t, x, "a", api.ErrNone)
	checkLen(t, x, 1, 8)
	if e := x.Put("", 1); e != api.ErrArg {
		t.Errorf("Put(empty, 1) = %d", e)
	}
	if e := x.Put("a", -1); e != api.ErrArg {
		t.Errorf("Put(a, -1) = %d", e)
	}
	checkLen(t, x, 1, 8)
}

// P10.1, P10.2: the limits are those of the chapter, and a new table is empty, whatever the seed is.
func TestNew(t *testing.T) {
	if table.MinSize != 8 || table.MaxKeys != 1048576 {
		t.Errorf("the limits are %d and %d", table.MinSize, table.MaxKeys)
	}
	for _, seed := range seeds {
		x := table.New(seed)
		checkLen(t, x, 0, 8)
		checkPlain(t, x, newPlain(seed))
		checkNoKey(t, x, "a", api.ErrNone)
		if _, e := x.Set("a", 1); e != api.ErrNone {
			t.Errorf("Set in an empty table = %d", e)
		}
	}
}

// P10.1: each number that is allowed is kept, by Put and by Set, and handed out by Get, Set and Del; 0 is one of them.
func TestNumbers(t *testing.T) {
	for _, n := range numbers {
		for _, m := range numbers {
			x := table.New(1)
			put(t, x, "k", n)
			checkGet(t, x, "k", n)
			if before, e := x.Set("k", m); before != n || e != api.OK {
				t.Fatalf("Set(%d) = %d, %d, want %d", m, before, e, n)
			}
			checkGet(t, x, "k", m)
			checkFails(t, x, "k", -1, api.ErrArg, api.ErrArg)
			if e := x.Put("k", n); e != api.ErrExists {
				t.Fatalf("Put of a key that is there = %d", e)
			}
			del(t, x, "k", m)
			checkNoKey(t, x, "k", api.ErrNone)
			checkLen(t, x, 0, 8)
		}
	}
}

// P10.1: several keys may have the same number, and a key may get the number that it has.
func TestSameNumber(t *testing.T) {
	x := table.New(3)
	for i := range 20 {
		put(t, x, name(i), 4)
	}
	for i := range 20 {
		before := x.Copy()
		if n, e := x.Set(name(i), 4); n != 4 || e != api.OK {
			t.Fatalf("Set = %d, %d", n, e)
		}
		checkSame(t, x, before)
	}
	for i := range 20 {
		del(t, x, name(i), 4)
	}
	checkLen(t, x, 0, 8)
}

// P10.1: each key is told from the others: those of one byte, those that begin with one another, those of bytes that are 0, long ones that differ in one byte, and those with the same hash.
func TestKeys(t *testing.T) {
	var l []string
	for i := range 256 {
		l = append(l, string([]byte{byte(i)}), "same"+string([]byte{byte(i)}))
	}
	for n := 2; n <= api.MaxKey; n++ {
		l = append(l, strings.Repeat("\x00", n), strings.Repeat("a", n))
	}
	for i := range api.MaxKey {
		b := []byte(strings.Repeat("b", api.MaxKey))
		b[i] = 'c'
		l = append(l, string(b))
	}
	l = append(l, "b\x00", "a\x1f", "b\x00b\x00", "a\x1fa\x1f", "b\x00a\x1f", "a\x1fb\x00")
	for _, seed := range seeds {
		x := table.New(seed)
		for i, k := range l {
			checkNowhere(t, x, k)
			put(t, x, k, i)
		}
		for i, k := range l {
			checkGet(t, x, k, i)
		}
		checkShape(t, x, seed)
		for i, k := range l {
			del(t, x, k, i)
			checkNowhere(t, x, k)
		}
		checkLen(t, x, 0, 8)
	}
}

// P10.1: keys with the same hash are told apart, whatever the seed and the size are.
func TestSameHash(t *testing.T) {
	for _, seed := range seeds {
		one, two := "b\x00", "a\x1f"
		if hash.Sum(seed, one) != hash.Sum(seed, two) {
			t.Fatal("the hashes are different")
		}
		x := table.New(seed)
		put(t, x, one, 1)
		checkNoKey(t, x, two, api.ErrNone)
		put(t, x, two, 2)
		checkGet(t, x, one, 1)
		checkGet(t, x, two, 2)
		del(t, x, one, 1)
		checkNoKey(t, x, one, api.ErrNone)
		checkGet(t, x, two, 2)
		put(t, x, one, 3)
		checkGet(t, x, one, 3)
		checkGet(t, x, two, 2)
	}
}

// P10.1: strings that are no keys and numbers below 0 are refused by each call, before anything else of the key is looked at, and change nothing.
func TestWrongArguments(t *testing.T) {
	x := table.New(0)
	for i := range 10 {
		put(t, x, name(i), i)
		for _, k := range wrongKeys {
			checkNoKey(t, x, k, api.ErrArg)
			for _, n := range append(slices.Clone(numbers), wrongNumbers...) {
				checkFails(t, x, k, n, api.ErrArg, api.ErrArg)
			}
		}
		for _, n := range wrongNumbers {
			checkFails(t, x, name(i), n, api.ErrArg, api.ErrArg)
			checkFails(t, x, "other", n, api.ErrArg, api.ErrArg)
		}
	}
	for _, k := range []string{"k", strings.Repeat("k", api.MaxKey-1), strings.Repeat("k", api.MaxKey)} {
		put(t, x, k, 1)
		checkGet(t, x, k, 1)
		del(t, x, k, 1)
	}
}

// P10.1: a key that is there cannot be put in again, and one that is not there has no number; neither changes anything, also where one key more would make the table grow.
func TestThereOrNot(t *testing.T) {
	for _, seed := range seeds {
		x := table.New(seed)
		for i := range 50 {
			for k := range i {
				before := x.Copy()
				if e := x.Put(name(k), 77); e != api.ErrExists {
					t.Fatalf("Put of a key that is there = %d", e)
				}
				checkSame(t, x, before)
				checkGet(t, x, name(k), k)
			}
			checkNoKey(t, x, name(i), api.ErrNone)
			before := x.Copy()
			if n, e := x.Set(name(i), 1); n != 0 || e != api.ErrNone {
				t.Fatalf("Set of a key that is not there = %d, %d", n, e)
			}
			checkSame(t, x, before)
			put(t, x, name(i), i)
		}
	}
}

// P10.1, P10.2: a nil and a zero table have no keys and no cells, and every call with an error has ErrNil, whatever its arguments are.
func TestNil(t *testing.T) {
	var none *table.Table
	for i, x := range []*table.Table{none, {}} {
		for _, k := range append([]string{"a"}, wrongKeys...) {
			for _, n := range []int{0, 1, -1, math.MaxInt, math.MinInt} {
				if e := x.Put(k, n); e != api.ErrNil {
					t.Errorf("%d: Put(%q, %d) = %d", i, k, n, e)
				}
				if m, e := x.Set(k, n); m != 0 || e != api.ErrNil {
					t.Errorf("%d: Set(%q, %d) = %d, %d", i, k, n, m, e)
				}
			}
			if n, e := x.Get(k); n != 0 || e != api.ErrNil {
				t.Errorf("%d: Get(%q) = %d, %d", i, k, n, e)
			}
			if n, e := x.Del(k); n != 0 || e != api.ErrNil {
				t.Errorf("%d: Del(%q) = %d, %d", i, k, n, e)
			}
		}
		keys, numbers := x.Cells()
		if x.Len() != 0 || x.Size() != 0 || len(keys) != 0 || len(numbers) != 0 || x.Copy() != nil {
			t.Errorf("%d: Len, Size, Cells, Copy = %d, %d, %q, %d, %v", i, x.Len(), x.Size(), keys, numbers, x.Copy())
		}
	}
}

// P10.1, P10.3: MaxKeys keys are put in, and no other one, until one is taken out; on the way each size comes just when it has to, forth and back.
func TestFull(t *testing.T) {
	x := table.New(5)
	size := 8
	for i := range table.MaxKeys {
		if 4*(i+1) > 3*size {
			size *= 2
		}
		put(t, x, name(i), i)
		if x.Size() != size {
			t.Fatalf("%d keys in %d cells, want %d", i+1, x.Size(), size)
		}
	}
	checkLen(t, x, table.MaxKeys, 2*table.MaxKeys)
	if e := x.Put("one more", 1); e != api.ErrFull {
		t.Fatalf("Put into a full table = %d", e)
	}
	checkErrorsOfFull(t, x)
	checkShape(t, x, 5)
	del(t, x, name(77), 77)
	put(t, x, "one more", 1)
	checkGet(t, x, "one more", 1)
	if e := x.Put(name(77), 1); e != api.ErrFull {
		t.Fatalf("Put into a full table = %d", e)
	}
	del(t, x, "one more", 1)
	put(t, x, name(77), 77)
	checkEmptied(t, x)
}

// checkErrorsOfFull checks that a full table has the other errors first, does all but Put, and still has what it had.
func checkErrorsOfFull(t *testing.T, x *table.Table) {
	t.Helper()
	if e := x.Put(name(3), 1); e != api.ErrExists {
		t.Fatalf("Put of a key that is there = %d", e)
	}
	for _, e := range []api.Errno{x.Put("", 1), x.Put("one more", -1), x.Put(name(3), -1)} {
		if e != api.ErrArg {
			t.Fatalf("Put with a wrong argument = %d", e)
		}
	}
	if n, e := x.Set(name(3), 9); n != 3 || e != api.OK {
		t.Fatalf("Set = %d, %d", n, e)
	}
	if n, e := x.Set(name(3), 3); n != 9 || e != api.OK {
		t.Fatalf("Set = %d, %d", n, e)
	}
	checkNoKey(t, x, "one more", api.ErrNone)
	checkLen(t, x, table.MaxKeys, 2*table.MaxKeys)
}

// checkEmptied takes all keys out of a full table.
func checkEmptied(t *testing.T, x *table.Table) {
	t.Helper()
	size := x.Size()
	for i := table.MaxKeys - 1; i >= 0; i-- {
		del(t, x, name(i), i)
		if size > 8 && 8*i < size {
			size /= 2
		}
		checkLen(t, x, i, size)
	}
	checkLen(t, x, 0, 8)
}

// P10.1: a table grows when one key more would be over three quarters of its cells, not before; and becomes smaller when its keys are less than an eighth of them, not before, and never smaller than 8 cells.
func TestSizes(t *testing.T) {
	x := table.New(0)
	for i, size := range []int{8, 8, 8, 8, 8, 8, 16, 16, 16, 16, 16, 16, 32, 32, 32, 32, 32, 32, 32, 32, 32, 32, 32, 32, 64} {
		put(t, x, name(i), i)
		checkLen(t, x, i+1, size)
	}
	for i := 24; i >= 0; i-- {
		del(t, x, name(i), i)
		size := 64
		switch {
		case i < 2:
			size = 8
		case i < 4:
			size = 16
		case i < 8:
			size = 32
		}
		checkLen(t, x, i, size)
	}
}

// P10.1: between the size that a table grows at and that at which it becomes smaller nothing is moved by putting in and taking out the same key.
func TestToAndFro(t *testing.T) {
	x := table.New(9)
	for i := range 7 {
		put(t, x, name(i), i)
	}
	checkLen(t, x, 7, 16)
	for range 10 {
		del(t, x, name(6), 6)
		checkLen(t, x, 6, 16)
		put(t, x, name(6), 6)
		checkLen(t, x, 7, 16)
	}
	for i := 6; i > 1; i-- {
		del(t, x, name(i), i)
	}
	checkLen(t, x, 2, 16)
	del(t, x, name(1), 1)
	checkLen(t, x, 1, 8)
	put(t, x, name(1), 1)
	checkLen(t, x, 2, 8)
}

// P10.1, P10.2: a key is put into the first free cell from its home on, and the next cell of the last one is the first one; if a key is taken out, those after it move back where they are found.
func TestWayOverTheEnd(t *testing.T) {
	for _, seed := range seeds {
		a, b, c, d := keyAt(t, seed, 6, 0), keyAt(t, seed, 6, 1), keyAt(t, seed, 6, 2), keyAt(t, seed, 7, 0)
		first, second := keyAt(t, seed, 0, 0), keyAt(t, seed, 2, 0)
		x := table.New(seed)
		for i, k := range []string{a, b, c, d, first, second} {
			put(t, x, k, i)
		}
		checkKeys(t, x, c, d, first, second, "", "", a, b)
		y := x.Copy()
		del(t, y, a, 0)
		checkKeys(t, y, d, first, second, "", "", "", b, c)
		y = x.Copy()
		del(t, y, c, 2)
		checkKeys(t, y, d, first, second, "", "", "", a, b)
		y = x.Copy()
		del(t, y, d, 3)
		checkKeys(t, y, c, first, second, "", "", "", a, b)
		y = x.Copy()
		del(t, y, first, 4)
		checkKeys(t, y, c, d, second, "", "", "", a, b)
		y = x.Copy()
		del(t, y, second, 5)
		checkKeys(t, y, c, d, first, "", "", "", a, b)
	}
}

// P10.1: a key at its home stays where it is, though one before it is taken out, and one behind it moves over it.
func TestStays(t *testing.T) {
	for _, seed := range seeds {
		for at := range 8 {
			a, b, c := keyAt(t, seed, at, 0), keyAt(t, seed, (at+1)%8, 0), keyAt(t, seed, at, 1)
			x := table.New(seed)
			for i, k := range []string{a, b, c} {
				put(t, x, k, i)
			}
			del(t, x, a, 0)
			want := make([]string, 8)
			want[at], want[(at+1)%8] = c, b
			checkKeys(t, x, want...)
			del(t, x, c, 2)
			want[at] = ""
			checkKeys(t, x, want...)
		}
	}
}

// P10.1: Set leaves each key in its cell.
func TestSetStays(t *testing.T) {
	for _, seed := range seeds {
		x := table.New(seed)
		for i := range 24 {
			put(t, x, name(i), i)
		}
		for i := range 24 {
			keys, before := x.Cells()
			if n, e := x.Set(name(i), 1000+i); n != i || e != api.OK {
				t.Fatalf("Set = %d, %d", n, e)
			}
			before[slices.Index(keys, name(i))] = 1000 + i
			checkKeys(t, x, keys...)
			if _, after := x.Cells(); !slices.Equal(after, before) {
				t.Fatalf("the numbers are %d, want %d", after, before)
			}
		}
	}
}

// P10.1: keys are moved to another size in the order of their cells, so that of two with one home that one which had the way over the end is put in first.
func TestMovedInOrder(t *testing.T) {
	for _, seed := range seeds {
		x, p := table.New(seed), newPlain(seed)
		for turn := 0; x.Len() < 6; turn++ {
			for _, k := range []string{keyAt(t, seed, 7, turn), keyAt(t, seed, 6, turn)} {
				put(t, x, k, turn)
				p.put(k, turn)
			}
		}
		checkPlain(t, x, p)
		put(t, x, "more", 9)
		p.put("more", 9)
		checkLen(t, x, 7, 16)
		checkPlain(t, x, p)
		keys, _ := x.Cells()
		for _, k := range keys {
			if k == "" {
				continue
			}
			x.Del(k)
			p.del(k)
			checkPlain(t, x, p)
		}
		checkLen(t, x, 0, 8)
	}
}

// P10.1, P10.2: all ways of homes of five keys around the end, each of them taken out first, second and so on, after the definition.
func TestAllHomes(t *testing.T) {
	homes := []int{5, 6, 7, 0}
	keys := make([][]string, len(homes))
	for h, at := range homes {
		for turn := range 5 {
			keys[h] = append(keys[h], keyAt(t, 0, at, turn))
		}
	}
	for way := range 4 * 4 * 4 * 4 * 4 {
		x, p := table.New(0), newPlain(0)
		var l []string
		for i, rest := 0, way; i < 5; i, rest = i+1, rest/4 {
			k := keys[rest%4][i]
			l = append(l, k)
			put(t, x, k, i)
			p.put(k, i)
		}
		checkPlain(t, x, p)
		takeOutInAllOrders(t, x, p, l)
	}
}

// takeOutInAllOrders takes keys out of copies of a table, in each order.
func takeOutInAllOrders(t *testing.T, x *table.Table, p *plain, l []string) {
	t.Helper()
	for i, k := range l {
		y, q := x.Copy(), p.clone()
		want, _ := q.del(k)
		del(t, y, k, want)
		checkPlain(t, y, q)
		if len(l) > 3 { // the later ones come in other orders of the keys, too
			takeOutInAllOrders(t, y, q, slices.Delete(slices.Clone(l), i, i+1))
		}
	}
}

// step does one of the calls with a table and with one after the definition, and compares the results.
func step(t *testing.T, x *table.Table, p *plain, call int, k string, n int) {
	t.Helper()
	switch call {
	case 0:
		if e, want := x.Put(k, n), p.put(k, n); e != want {
			t.Fatalf("Put(%q, %d) = %d, want %d", k, n, e, want)
		}
	case 1:
		m, e := x.Del(k)
		if want, err := p.del(k); m != want || e != err {
			t.Fatalf("Del(%q) = %d, %d, want %d, %d", k, m, e, want, err)
		}
	case 2:
		m, e := x.Set(k, n)
		if want, err := p.set(k, n); m != want || e != err {
			t.Fatalf("Set(%q, %d) = %d, %d, want %d, %d", k, n, m, e, want, err)
		}
	case 3:
		m, e := x.Get(k)
		if want, err := p.get(k); m != want || e != err {
			t.Fatalf("Get(%q) = %d, %d, want %d, %d", k, m, e, want, err)
		}
	}
}

// P10.1, P10.2: all ways of up to six steps of putting in, taking out and setting, with three keys of which two have one home, after the definition, going on with copies.
func TestAllWays(t *testing.T) {
	for _, seed := range []uint64{0, 1} {
		l := []string{keyAt(t, seed, 7, 0), keyAt(t, seed, 7, 1), keyAt(t, seed, 0, 0)}
		var walk func(x *table.Table, p *plain, left int)
		walk = func(x *table.Table, p *plain, left int) {
			checkPlain(t, x, p)
			for i, k := range l {
				step(t, x, p, 3, k, 0)
				for call := 0; call < 3 && left > 0; call++ {
					y, q := x.Copy(), p.clone()
					step(t, y, q, call, k, 10*left+i)
					walk(y, q, left-1)
				}
			}
		}
		walk(table.New(seed), newPlain(seed), 5)
	}
}

// P10.1, P10.2, P10.3: long runs with more and fewer keys, without copies, after the definition.
func TestLongRuns(t *testing.T) {
	for _, seed := range seeds {
		for _, many := range []int{4, 9, 40, 150} {
			next := random(seed + uint64(many))
			x, p := table.New(seed), newPlain(seed)
			for i := range 3000 {
				call := next(4)
				if i/500%2 == 1 && call == 0 { // times in which the table becomes emptier
					call = 1
				}
				step(t, x, p, call, name(next(many)), next(1000))
				checkPlain(t, x, p)
			}
			checkShape(t, x, seed)
		}
	}
}

// P10.3: long runs with many keys keep the shape and find what a map has.
func TestAgainstMap(t *testing.T) {
	for _, seed := range seeds {
		next := random(seed)
		x, m := table.New(seed), map[string]int{}
		for i := range 20000 {
			k, n := name(next(6000)), next(1<<20)
			was, there := m[k]
			switch {
			case !there:
				put(t, x, k, n)
				m[k] = n
			case i/5000%2 == 0 && next(3) == 0:
				if before, e := x.Set(k, n); before != was || e != api.OK {
					t.Fatalf("Set(%q) = %d, %d, want %d", k, before, e, was)
				}
				m[k] = n
			default:
				del(t, x, k, was)
				delete(m, k)
			}
			if x.Len() != len(m) {
				t.Fatalf("Len = %d, want %d", x.Len(), len(m))
			}
			if i%1000 == 0 {
				checkShape(t, x, seed)
			}
		}
		for i := range 6000 {
			if n, there := m[name(i)]; there {
				checkGet(t, x, name(i), n)
			} else {
				checkNowhere(t, x, name(i))
			}
		}
	}
}

// checkNowhere checks that a key is not there, without looking at all others.
func checkNowhere(t *testing.T, x *table.Table, k string) {
	t.Helper()
	n, e := x.Get(k)
	m, f := x.Del(k)
	before, g := x.Set(k, 1)
	if n != 0 || m != 0 || before != 0 || e != api.ErrNone || f != api.ErrNone || g != api.ErrNone {
		t.Fatalf("Get, Del, Set of %q = %d, %d, %d, %d, %d, %d", k, n, e, m, f, before, g)
	}
}

// P10.3: the seed changes no result but the order of Cells, which it does change. (Bits of the seed from 28 on come into no index.)
func TestSeeds(t *testing.T) {
	type result struct {
		n, keys, size int
		e             api.Errno
	}
	run := func(seed uint64) (l []result, x *table.Table) {
		next := random(11)
		x = table.New(seed)
		for range 4000 {
			k, n := name(next(60)), next(3)-1
			if next(20) == 0 {
				k = ""
			}
			var r result
			switch next(4) {
			case 0:
				r.e = x.Put(k, n)
			case 1:
				r.n, r.e = x.Del(k)
			case 2:
				r.n, r.e = x.Set(k, n)
			case 3:
				r.n, r.e = x.Get(k)
			}
			r.keys, r.size = x.Len(), x.Size()
			l = append(l, r)
		}
		return l, x
	}
	first, x := run(0)
	keys, numbers := sorted(x)
	cells, _ := x.Cells()
	for _, seed := range seeds[1:] {
		l, y := run(seed)
		if !slices.Equal(l, first) {
			t.Errorf("the seed %d has other results", seed)
		}
		others, theirs := sorted(y)
		if !slices.Equal(others, keys) || !slices.Equal(theirs, numbers) {
			t.Errorf("with the seed %d there are the keys %q", seed, others)
		}
		if c, _ := y.Cells(); slices.Equal(c, cells) != (seed<<36 == 0) {
			t.Errorf("the seed %d has the cells %q, the seed 0 %q", seed, c, cells)
		}
		checkShape(t, y, seed)
	}
}

// sorted returns the keys of a table, in order, and their numbers.
func sorted(x *table.Table) (keys []string, numbers []int) {
	l, _ := x.Cells()
	for _, k := range l {
		if k != "" {
			keys = append(keys, k)
		}
	}
	slices.Sort(keys)
	for _, k := range keys {
		n, _ := x.Get(k)
		numbers = append(numbers, n)
	}
	return keys, numbers
}

// P10.2: a copy has what the table has, and neither of them sees what is done with the other one, whether it stays as great as it is or not.
func TestCopy(t *testing.T) {
	for _, many := range []int{0, 1, 2, 5, 6, 7, 12, 13, 40} {
		for _, more := range []int{1, 2, 30} {
			x := table.New(4)
			for i := range many {
				put(t, x, name(i), i)
			}
			first := x.Copy()
			checkSame(t, first, x)
			y := x.Copy()
			for i := range more {
				put(t, y, name(1000+i), 5)
			}
			for i := range many {
				if _, e := y.Set(name(i), 500); e != api.OK {
					t.Fatal(e)
				}
			}
			checkSame(t, x, first)
			z := x.Copy()
			for i := range many {
				del(t, x, name(i), i)
			}
			checkLen(t, x, 0, 8)
			checkSame(t, z, first)
			checkLen(t, y, many+more, y.Size())
			for i := range many {
				checkGet(t, y, name(i), 500)
				checkGet(t, z, name(i), i)
			}
			checkShape(t, y, 4)
			put(t, x, "later", 1)
			checkNoKey(t, z, "later", api.ErrNone)
			checkNoKey(t, y, "later", api.ErrNone)
		}
	}
}

// P10.2: what Cells returns is new each time: it shares no memory with the table, with another result, or with a copy.
func TestCellsAreNew(t *testing.T) {
	x := table.New(0)
	for i := range 10 {
		put(t, x, name(i), i)
	}
	c := x.Copy()
	keys, numbers := x.Cells()
	wantKeys, wantNumbers := slices.Clone(keys), slices.Clone(numbers)
	for i := range keys {
		keys[i], numbers[i] = "changed", 99
	}
	keys, numbers = append(keys, "x"), append(numbers, 1)
	for _, y := range []*table.Table{x, c} {
		again, others := y.Cells()
		if !slices.Equal(again, wantKeys) || !slices.Equal(others, wantNumbers) {
			t.Errorf("after a result was changed, Cells = %q, %d", again, others)
		}
	}
	before, others := x.Cells()
	for i := range 10 {
		x.Set(name(i), 50)
		x.Del(name(i))
	}
	if !slices.Equal(before, wantKeys) || !slices.Equal(others, wantNumbers) || len(keys) != len(wantKeys)+1 || len(numbers) != len(wantNumbers)+1 {
		t.Errorf("after the table was changed, a result is %q, %d", before, others)
	}
}

// P10.1: equal calls with equal tables have equal results, and tables do not see one another.
func TestAgain(t *testing.T) {
	for _, seed := range seeds {
		x, y := table.New(seed), table.New(seed)
		other := table.New(seed + 1)
		for i := range 100 {
			put(t, x, name(i*7%100), i)
			put(t, other, name(i), 1000+i)
		}
		for i := range 100 {
			put(t, y, name(i*7%100), i)
		}
		checkSame(t, x, y)
		for i := range 100 {
			del(t, other, name(i), 1000+i)
			checkGet(t, x, name(i*7%100), i)
		}
		checkSame(t, x, y)
	}
}
