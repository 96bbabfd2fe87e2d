package store_test

import (
	"bytes"
	"fmt"
	"math"
	"runtime"
	"slices"
	"strings"
	"testing"

	"tagcache/account"
	"tagcache/api"
	"tagcache/store"
)

const (
	never = api.Never
	small = 65 // what an entry with a key of one byte and nothing else costs
)

// plain is a store after the definition: its entries in the order of use.
type plain struct {
	bytes, most int
	entries     []api.Entry
}

// cost returns what an entry costs.
func cost(x api.Entry) int { return 64 + len(x.Key) + len(x.Value) + len(strings.Join(x.Tags, "")) }

// used returns what all entries cost.
func (p plain) used() int {
	n := 0
	for _, x := range p.entries {
		n += cost(x)
	}
	return n
}

// wrong reports whether an entry has no key, or tags that are not in order.
func wrong(x api.Entry) bool {
	for i, s := range x.Tags {
		if s == "" || len(s) > 64 || i > 0 && x.Tags[i-1] >= s {
			return true
		}
	}
	return x.Key == "" || len(x.Key) > 250 || len(x.Tags) > 16
}

// find returns where in the order of use the entry with a key is, or an error.
func (p plain) find(key string) (int, api.Errno) {
	if key == "" || len(key) > 250 {
		return 0, api.ErrArg
	}
	for i, x := range p.entries {
		if x.Key == key {
			return i, api.OK
		}
	}
	return 0, api.ErrNone
}

// remove takes out the entry with a key.
func (p *plain) remove(key string) (api.Entry, api.Errno) {
	i, e := p.find(key)
	if e != api.OK {
		return api.Entry{}, e
	}
	x := p.entries[i]
	p.entries = slices.Concat(p.entries[:i], p.entries[i+1:])
	return x, api.OK
}

// put puts an entry in.
func (p *plain) put(x api.Entry) ([]api.Entry, api.Errno) {
	switch {
	case wrong(x):
		return nil, api.ErrArg
	case len(x.Value) > 65536:
		return nil, api.ErrLong
	case cost(x) > p.bytes:
		return nil, api.ErrTooBig
	}
	p.remove(x.Key)
	var evicted []api.Entry
	for p.used()+cost(x) > p.bytes || len(p.entries)+1 > p.most {
		evicted = append(evicted, p.entries[0])
		p.entries = p.entries[1:]
	}
	p.entries = append(slices.Clone(p.entries), twin(x))
	return evicted, api.OK
}

// use uses the entry with a key.
func (p *plain) use(key string) (api.Entry, api.Errno) {
	x, e := p.remove(key)
	if e == api.OK {
		p.entries = append(slices.Clone(p.entries), x)
	}
	return x, e
}

// touch gives the entry with a key a deadline and uses it.
func (p *plain) touch(key string, deadline api.Time) api.Errno {
	_, e := p.use(key)
	if e == api.OK {
		p.entries[len(p.entries)-1].Deadline = deadline
	}
	return e
}

// expire takes out what is due.
func (p *plain) expire(now api.Time) []api.Entry {
	var due, rest []api.Entry
	for _, x := range p.entries {
		if x.Deadline == never || x.Deadline > now {
			rest = append(rest, x)
			continue
		}
		i := 0
		for i < len(due) && (due[i].Deadline < x.Deadline || due[i].Deadline == x.Deadline && due[i].Key < x.Key) {
			i++
		}
		due = slices.Insert(due, i, x)
	}
	p.entries = rest
	return due
}

// twin returns an entry that shares no memory with another one.
func twin(x api.Entry) api.Entry {
	x.Value, x.Tags = slices.Clone(x.Value), slices.Clone(x.Tags)
	return x
}

// twins does the same for a list.
func twins(l []api.Entry) []api.Entry {
	var out []api.Entry
	for _, x := range l {
		out = append(out, twin(x))
	}
	return out
}

// same reports whether two entries are equal in all parts.
func same(x, y api.Entry) bool {
	return x.Key == y.Key && bytes.Equal(x.Value, y.Value) && slices.Equal(x.Tags, y.Tags) && x.Deadline == y.Deadline && x.Version == y.Version && x.Stamp == y.Stamp
}

// text says in short what entries are.
func text(l []api.Entry) string {
	var out []string
	for _, x := range l {
		out = append(out, fmt.Sprintf("%.9q at %d cost %d version %d stamp %d", x.Key, x.Deadline, cost(x), x.Version, x.Stamp))
	}
	return strings.Join(out, ", ")
}

// checkList compares entries with what they should be.
func checkList(t *testing.T, name string, l, want []api.Entry) {
	t.Helper()
	if !slices.EqualFunc(l, want, same) {
		t.Fatalf("%s: [%s], want [%s]", name, text(l), text(want))
	}
}

// open returns a store with budgets, and one after the definition.
func open(t *testing.T, bytes, entries int) (*store.Store, *plain) {
	t.Helper()
	s, e := store.New(bytes, entries, 5)
	if s == nil || e != api.OK {
		t.Fatalf("New(%d, %d) = %v, %d", bytes, entries, s, e)
	}
	return s, &plain{bytes: bytes, most: entries}
}

// with returns a store into which some entries were put, which need no room from one another, and one after the definition.
func with(t *testing.T, bytes, entries int, l ...api.Entry) (*store.Store, *plain) {
	t.Helper()
	s, p := open(t, bytes, entries)
	for _, x := range l {
		put(t, s, p, x)
	}
	if len(p.entries) != len(l) {
		t.Fatalf("there is no room for [%s]", text(l))
	}
	return s, p
}

// at returns an entry with a key and a deadline.
func at(key string, deadline api.Time) api.Entry { return api.Entry{Key: key, Deadline: deadline} }

// sized returns an entry with some bytes as its value and without a deadline.
func sized(key string, value int) api.Entry {
	return api.Entry{Key: key, Value: bytes.Repeat([]byte(key[:1]), value), Deadline: never}
}

// whole returns an entry of which all parts have something in them.
func whole(key string, deadline api.Time, n int) api.Entry {
	return api.Entry{Key: key, Value: []byte("value of " + key), Tags: []string{"all", "tag of " + key}, Deadline: deadline, Version: uint64(100 + n), Stamp: uint64(200 + n)}
}

// put puts an entry into both, and compares what is returned and what they are then.
func put(t *testing.T, s *store.Store, p *plain, x api.Entry) {
	t.Helper()
	before := text(p.entries)
	l, e := s.Put(x)
	want, f := p.put(x)
	if e != f {
		t.Fatalf("[%s]: Put([%s]) = %d, want %d", before, text([]api.Entry{x}), e, f)
	}
	checkList(t, "["+before+"], evicted", l, want)
	checkStore(t, s, *p)
}

// find finds an entry in both.
func find(t *testing.T, s *store.Store, p *plain, key string) {
	t.Helper()
	var want api.Entry
	i, f := p.find(key)
	if f == api.OK {
		want = p.entries[i]
	}
	if x, e := s.Find(key); !same(x, want) || e != f {
		t.Fatalf("[%s]: Find(%.9q) = %v, %d, want %v, %d", text(p.entries), key, x, e, want, f)
	}
	checkStore(t, s, *p)
}

// use uses an entry of both.
func use(t *testing.T, s *store.Store, p *plain, key string) {
	t.Helper()
	x, e := s.Use(key)
	if want, f := p.use(key); !same(x, want) || e != f {
		t.Fatalf("[%s]: Use(%.9q) = %v, %d, want %v, %d", text(p.entries), key, x, e, want, f)
	}
	checkStore(t, s, *p)
}

// touch touches an entry of both.
func touch(t *testing.T, s *store.Store, p *plain, key string, deadline api.Time) {
	t.Helper()
	if e, f := s.Touch(key, deadline), p.touch(key, deadline); e != f {
		t.Fatalf("[%s]: Touch(%.9q, %d) = %d, want %d", text(p.entries), key, deadline, e, f)
	}
	checkStore(t, s, *p)
}

// remove removes an entry from both.
func remove(t *testing.T, s *store.Store, p *plain, key string) {
	t.Helper()
	x, e := s.Remove(key)
	if want, f := p.remove(key); !same(x, want) || e != f {
		t.Fatalf("[%s]: Remove(%.9q) = %v, %d, want %v, %d", text(p.entries), key, x, e, want, f)
	}
	checkStore(t, s, *p)
}

// expire takes out what is due of both.
func expire(t *testing.T, s *store.Store, p *plain, now api.Time) {
	t.Helper()
	before := text(p.entries)
	checkList(t, fmt.Sprintf("[%s], Expire(%d)", before, now), s.Expire(now), p.expire(now))
	checkStore(t, s, *p)
}

// checkStore compares all that a store says of itself with what it should be.
func checkStore(t *testing.T, s *store.Store, p plain) {
	t.Helper()
	var keys []string
	var all []api.Entry
	next := never
	for _, x := range p.entries {
		keys = append(keys, x.Key)
		next = min(next, x.Deadline)
		if got, e := s.Find(x.Key); !same(got, x) || e != api.OK {
			t.Fatalf("Find(%.9q) = %v, %d, want %v", x.Key, got, e, x)
		}
	}
	for x := range s.All() {
		all = append(all, x)
	}
	checkList(t, "All", all, p.entries)
	if l := s.Keys(); !slices.Equal(l, keys) {
		t.Fatalf("Keys = %.9q, want %.9q", l, keys)
	}
	if at := s.Next(); at != next {
		t.Fatalf("Next = %d, want %d: %s", at, next, text(p.entries))
	}
	n, k := s.Used()
	if n != p.used() || k != len(p.entries) {
		t.Fatalf("Used = %d, %d, want %d, %d", n, k, p.used(), len(p.entries))
	}
	if n > p.bytes || k > p.most {
		t.Fatalf("Used = %d, %d, which is beyond the budgets %d, %d", n, k, p.bytes, p.most)
	}
	if n, k := s.Budget(); n != p.bytes || k != p.most {
		t.Fatalf("Budget = %d, %d, want %d, %d", n, k, p.bytes, p.most)
	}
}

// checkEnd empties copies in three ways, which shows whether all parts of a store know of the same entries.
func checkEnd(t *testing.T, s *store.Store, p plain) {
	t.Helper()
	c, q := s.Copy(), p
	for now := s.Next(); now != never; now = c.Next() {
		expire(t, c, &q, now)
	}
	for _, key := range c.Keys() {
		remove(t, c, &q, key)
	}
	c, q = s.Copy(), p
	if p.most <= 100 {
		for i := range p.most + 1 {
			put(t, c, &q, at(fmt.Sprintf("%03d", i), 7))
		}
	}
	c, q = s.Copy(), p
	for i := len(p.entries) - 1; i >= 0; i-- {
		use(t, c, &q, p.entries[i].Key)
	}
	checkStore(t, s, p)
}

// checkNoPut checks that an entry cannot be put in, and that nothing has changed.
func checkNoPut(t *testing.T, s *store.Store, p *plain, x api.Entry, want api.Errno) {
	t.Helper()
	if l, e := s.Put(x); len(l) != 0 || e != want {
		t.Fatalf("Put([%s]) = [%s], %d, want %d", text([]api.Entry{x}), text(l), e, want)
	}
	if _, e := p.put(x); e != want {
		t.Fatalf("after the definition Put([%s]) = %d, want %d", text([]api.Entry{x}), e, want)
	}
	checkStore(t, s, *p)
}

// checkNo checks that there is no entry with a string as its key: nothing can be done with it.
func checkNo(t *testing.T, s *store.Store, p *plain, key string, want api.Errno) {
	t.Helper()
	if x, e := s.Find(key); !same(x, api.Entry{}) || e != want {
		t.Fatalf("Find(%.9q) = %v, %d, want %d", key, x, e, want)
	}
	if x, e := s.Use(key); !same(x, api.Entry{}) || e != want {
		t.Fatalf("Use(%.9q) = %v, %d, want %d", key, x, e, want)
	}
	if x, e := s.Remove(key); !same(x, api.Entry{}) || e != want {
		t.Fatalf("Remove(%.9q) = %v, %d, want %d", key, x, e, want)
	}
	for _, deadline := range []api.Time{0, 5, never} {
		if e := s.Touch(key, deadline); e != want {
			t.Fatalf("Touch(%.9q, %d) = %d, want %d", key, deadline, e, want)
		}
	}
	checkStore(t, s, *p)
}

// numbers returns numbers that look as if they had no rule, but are the same ones in each run.
func numbers(seed uint64) func(below int) int {
	return func(below int) int {
		seed = seed*6364136223846793005 + 1442695040888963407
		return int(seed>>33) % below
	}
}

// keysOf returns the keys of entries.
func keysOf(l []api.Entry) string {
	var out []string
	for _, x := range l {
		out = append(out, x.Key)
	}
	return strings.Join(out, " ")
}

// someTags returns tags in order, each of some bytes.
func someTags(count, size int) []string {
	var tags []string
	for i := range count {
		tags = append(tags, strings.Repeat(string([]byte{byte('a' + i)}), size))
	}
	return tags
}

// noKeys returns strings that are no keys.
func noKeys() []string {
	return []string{"", strings.Repeat("k", 251), strings.Repeat("k", 252), strings.Repeat("k", 256+5), strings.Repeat("k", 1<<16+5)}
}

// P14.1 to P14.4: the examples of the chapter.
func TestExamples(t *testing.T) {
	entry := func(key string, value int, deadline api.Time) api.Entry {
		return api.Entry{Key: key, Value: make([]byte, value), Deadline: deadline}
	}
	s, _ := store.New(300, 3, 0)
	for _, x := range []api.Entry{entry("a", 1, never), entry("b", 1, never), entry("c", 1, 9)} {
		if l, e := s.Put(x); len(l) != 0 || e != api.OK {
			t.Fatalf("Put(%s) = [%s], %d", x.Key, text(l), e)
		}
	}
	if x, e := s.Use("a"); !same(x, entry("a", 1, never)) || e != api.OK {
		t.Errorf("Use(a) = %v, %d", x, e)
	}
	if l, e := s.Put(entry("d", 1, never)); keysOf(l) != "b" || e != api.OK {
		t.Errorf("Put(d) = [%s], %d", text(l), e)
	}
	if l := s.Keys(); !slices.Equal(l, []string{"c", "a", "d"}) {
		t.Errorf("Keys = %q", l)
	}

	if x, e := s.Find("b"); !same(x, api.Entry{}) || e != api.ErrNone {
		t.Errorf("Find(b) = %v, %d", x, e)
	}
	if l, e := s.Put(entry("a", 200, never)); keysOf(l) != "c d" || e != api.OK {
		t.Errorf("Put(a) = [%s], %d", text(l), e)
	}
	if l := s.Keys(); !slices.Equal(l, []string{"a"}) {
		t.Errorf("Keys = %q", l)
	}
	if n, k := s.Used(); n != 265 || k != 1 {
		t.Errorf("Used = %d, %d", n, k)
	}

	if e := s.Touch("a", 5); e != api.OK || s.Next() != 5 {
		t.Errorf("Touch(a, 5) = %d, Next = %d", e, s.Next())
	}
	if l := s.Expire(4); len(l) != 0 {
		t.Errorf("Expire(4) = [%s]", text(l))
	}
	if l := s.Expire(5); len(l) != 1 || !same(l[0], entry("a", 200, 5)) {
		t.Errorf("Expire(5) = [%s]", text(l))
	}
	if n, k := s.Used(); n != 0 || k != 0 {
		t.Errorf("Used = %d, %d", n, k)
	}
	if x, e := s.Remove("a"); !same(x, api.Entry{}) || e != api.ErrNone {
		t.Errorf("Remove(a) = %v, %d", x, e)
	}

	p := &plain{bytes: 300, most: 3}
	checkNoPut(t, s, p, entry("e", 236, never), api.ErrTooBig)
	checkNoPut(t, s, p, entry("", 1, never), api.ErrArg)
	checkNoNew(t, 0, 1)
	checkNoNew(t, 1, 1048577)
	put(t, s, p, entry("e", 235, never))
}

// checkNoNew checks that there is no store with budgets.
func checkNoNew(t *testing.T, bytes, entries int) {
	t.Helper()
	for _, seed := range []uint64{0, 1, math.MaxUint64} {
		if s, e := store.New(bytes, entries, seed); s != nil || e != api.ErrArg {
			t.Fatalf("New(%d, %d, %d) = %v, %d", bytes, entries, seed, s, e)
		}
	}
}

// P14.1: budgets at both ends and beyond them, such as are allowed in fewer bits too.
func TestNew(t *testing.T) {
	for _, bytes := range []int{1, 2, 64, 65, 66, 67000, 1 << 31, 1<<31 + 1, 1 << 32, 1<<32 + 1, 1<<40 - 1, 1 << 40} {
		for _, entries := range []int{1, 2, 3, 1 << 16, 1<<20 - 1, 1 << 20} {
			s, p := open(t, bytes, entries)
			checkStore(t, s, *p)
			checkNo(t, s, p, "k", api.ErrNone)
			expire(t, s, p, never)
			put(t, s, p, at("k", 3))
		}
	}
	for _, no := range []int{0, -1, -65, -1 << 20, -1 << 32, -1<<32 + 5, math.MinInt, math.MinInt + 5} {
		for _, yes := range []int{1, 1000, 1 << 20} {
			checkNoNew(t, no, yes)
			checkNoNew(t, yes, no)
		}
		checkNoNew(t, no, no)
	}
	for _, bytes := range []int{1<<40 + 1, 1<<40 + 5, 1 << 41, 1<<48 + 5, math.MaxInt - 1, math.MaxInt} {
		checkNoNew(t, bytes, 5)
		checkNoNew(t, bytes, 0)
		checkNoNew(t, bytes, 1<<20+1)
	}
	for _, entries := range []int{1<<20 + 1, 1<<20 + 5, 1 << 21, 1<<31 + 5, 1 << 32, 1<<32 + 5, 1 << 40, math.MaxInt} {
		checkNoNew(t, 1000, entries)
		checkNoNew(t, 0, entries)
	}
}

// P14.1, P14.2: what was put in is found with all its parts, at both ends of all of them.
func TestAllParts(t *testing.T) {
	s, p := open(t, 1<<40, 1<<20)
	for _, n := range []uint64{0, 1, 2, 255, 1 << 31, 1 << 32, 1<<63 - 1, 1 << 63, math.MaxUint64 - 1, math.MaxUint64} {
		put(t, s, p, api.Entry{Key: "deadline", Deadline: api.Time(n)})
		put(t, s, p, api.Entry{Key: "version", Version: n})
		put(t, s, p, api.Entry{Key: "stamp", Stamp: n})
	}
	for size := 1; size <= api.MaxKey; size++ {
		put(t, s, p, whole(strings.Repeat("k", size), api.Time(size), size))
	}
	for c := range 256 {
		one := string([]byte{byte(c)})
		put(t, s, p, api.Entry{Key: one, Value: []byte(one + "/" + one), Tags: []string{one, one + one}, Deadline: api.Time(c)})
	}
	s, p = open(t, 1<<40, 1<<20)
	for _, size := range []int{0, 1, 2, 255, 256, 65535, 65536} {
		put(t, s, p, sized(fmt.Sprint("value ", size), size))
		for _, count := range []int{0, 1, 2, 15, 16} {
			for _, tag := range []int{1, 2, 63, 64} {
				put(t, s, p, api.Entry{Key: fmt.Sprint(size, count, tag), Value: make([]byte, size), Tags: someTags(count, tag)})
			}
		}
	}
	put(t, s, p, api.Entry{Key: "none"})
	put(t, s, p, api.Entry{Key: "empty", Value: []byte{}, Tags: []string{}})
	checkEnd(t, s, *p)
	s, p = open(t, 66874, 1)
	put(t, s, p, api.Entry{Key: strings.Repeat("k", 250), Value: make([]byte, 65536), Tags: someTags(16, 64)})
	s, p = open(t, 66873, 1)
	checkNoPut(t, s, p, api.Entry{Key: strings.Repeat("k", 250), Value: make([]byte, 65536), Tags: someTags(16, 64)}, api.ErrTooBig)
}

// P14.1: entries that are not allowed are not put in and change nothing, also such as have the key of one that is there.
func TestNoPut(t *testing.T) {
	s, p := with(t, 1000, 3, whole("a", 5, 1), whole("b", 9, 2), whole("c", never, 3))
	for _, size := range []int{0, 5, 1000, 65536, 65537, 1 << 17} {
		for _, key := range noKeys() {
			for _, tags := range [][]string{nil, {"x"}, {"y", "x"}, {""}} {
				checkNoPut(t, s, p, api.Entry{Key: key, Value: make([]byte, size), Tags: tags}, api.ErrArg)
			}
		}
		for _, key := range []string{"a", "b", "c", "d", strings.Repeat("k", 250)} {
			for _, tags := range [][]string{{""}, {"", "a"}, {"y", "x"}, {"x", "x"}, {"a", "c", "b"}, {"a", "b", "b"}, {"a", strings.Repeat("b", 65)}, {strings.Repeat("a", 65)}, someTags(17, 1), slices.Repeat([]string{"a"}, 17)} {
				checkNoPut(t, s, p, api.Entry{Key: key, Value: make([]byte, size), Tags: tags}, api.ErrArg)
			}
		}
	}
	for _, key := range []string{"a", "b", "c", "d", strings.Repeat("k", 250)} {
		for _, size := range []int{65537, 65538, 1 << 17, 1<<16 + 65536} {
			checkNoPut(t, s, p, api.Entry{Key: key, Value: make([]byte, size)}, api.ErrLong)
			checkNoPut(t, s, p, api.Entry{Key: key, Value: make([]byte, size), Tags: []string{"x", "y"}, Deadline: 3, Version: 9}, api.ErrLong)
		}
		for _, size := range []int{1000 - 64 - len(key) - 2 + 1, 1000, 1001, 65535, 65536} {
			checkNoPut(t, s, p, api.Entry{Key: key, Value: make([]byte, size), Tags: []string{"x", "y"}, Deadline: 3, Version: 9}, api.ErrTooBig)
		}
	}
	checkEnd(t, s, *p)
}

// P14.1: an entry that costs just the budget is put in, and one that costs more is not; each byte of its key, value and tags counts.
func TestTooBig(t *testing.T) {
	for _, x := range []api.Entry{at("k", 5), sized("k", 1), sized("key", 0), whole("key", 7, 1), {Key: "k", Tags: []string{"t"}}, {Key: "k", Tags: someTags(16, 64)}, sized("k", 65536)} {
		for _, entries := range []int{1, 2, 1 << 20} {
			s, p := open(t, cost(x), entries)
			put(t, s, p, x)
			put(t, s, p, x)
			checkEnd(t, s, *p)
			s, p = open(t, cost(x)-1, entries)
			checkNoPut(t, s, p, x, api.ErrTooBig)
			s, p = with(t, 2*cost(x)-1, 2, x)
			other := x
			other.Key = "z" + x.Key[1:]
			put(t, s, p, other)
			if l := s.Keys(); !slices.Equal(l, []string{other.Key}) {
				t.Fatalf("Keys = %q", l)
			}
		}
	}
	for bytes := 1; bytes < small; bytes++ {
		s, p := open(t, bytes, 5)
		checkNoPut(t, s, p, api.Entry{Key: "k"}, api.ErrTooBig)
	}
}

// P14.1, P14.5: as many of the entries that were used longest ago are evicted as is needed for the bytes.
func TestEvictForBytes(t *testing.T) {
	sizes := []int{3, 0, 20, 1, 50, 7}
	for value := range 6*small + 81 {
		var l []api.Entry
		for i, size := range sizes {
			l = append(l, sized(string([]byte{byte('a' + i)}), size))
		}
		s, p := with(t, 6*small+81, 100, l...)
		before := s.Keys()
		x := sized("x", value)
		if cost(x) > 6*small+81 {
			checkNoPut(t, s, p, x, api.ErrTooBig)
			continue
		}
		gone, free := 0, 0
		for ; free < cost(x); gone++ {
			free += small + sizes[gone]
		}
		evicted, e := s.Put(x)
		if !slices.Equal(s.Keys(), append(slices.Clone(before[gone:]), "x")) || e != api.OK {
			t.Fatalf("with %d bytes: Keys = %q, %d", cost(x), s.Keys(), e)
		}
		checkList(t, "evicted", evicted, l[:gone])
		p.put(x)
		checkEnd(t, s, *p)
	}
}

// P14.1, P14.5: one entry is evicted for another one when there are as many as there may be, and none before.
func TestEvictForEntries(t *testing.T) {
	for most := 1; most < 9; most++ {
		s, p := open(t, 1<<40, most)
		for i := range 30 {
			l, e := s.Put(whole(fmt.Sprint(i), never, i))
			p.put(whole(fmt.Sprint(i), never, i))
			if i < most && len(l) != 0 || i >= most && (len(l) != 1 || !same(l[0], whole(fmt.Sprint(i-most), never, i-most))) || e != api.OK {
				t.Fatalf("of at most %d the entry %d evicts [%s], %d", most, i, text(l), e)
			}
			checkStore(t, s, *p)
		}
		checkEnd(t, s, *p)
	}
}

// P14.1: an entry takes the place of the one with its key, which is not evicted, and its cost is free for it.
func TestReplace(t *testing.T) {
	for i, key := range []string{"a", "b", "c"} {
		for value := range 3*small + 20 {
			old := []api.Entry{whole("a", 5, 1), whole("b", never, 2), whole("c", 7, 3)}
			bytes := cost(old[0]) + cost(old[1]) + cost(old[2])
			s, p := with(t, bytes, 3, old...)
			x := api.Entry{Key: key, Value: make([]byte, value), Deadline: 6, Version: 9}
			if cost(x) > bytes {
				checkNoPut(t, s, p, x, api.ErrTooBig)
				continue
			}
			l, e := s.Put(x)
			for _, gone := range l {
				if gone.Key == key {
					t.Fatalf("Put(%s) evicts [%s], %d", key, text(l), e)
				}
			}
			if cost(x) <= cost(old[i]) && len(l) != 0 || e != api.OK {
				t.Fatalf("Put([%s]) in the place of [%s] evicts [%s], %d", text([]api.Entry{x}), text(old[i:i+1]), text(l), e)
			}
			p.put(x)
			checkEnd(t, s, *p)
		}
	}
	s, p := with(t, 1000, 1, whole("a", 5, 1))
	for n := range 20 {
		put(t, s, p, whole("a", api.Time(20-n), n))
	}
	checkEnd(t, s, *p)
}

// P14.2: Find, which is no use, and Use and Touch, at each place of orders of each length.
func TestFindUseTouch(t *testing.T) {
	for length := range 8 {
		var l []api.Entry
		for i := range length {
			l = append(l, whole(string([]byte{byte('a' + i)}), []api.Time{never, 4, 9, 4}[i%4], i))
		}
		for i := range length {
			s, p := with(t, 10000, 20, l...)
			find(t, s, p, l[i].Key)
			use(t, s, p, l[i].Key)
			use(t, s, p, l[i].Key)
			touch(t, s, p, l[i].Key, 3)
			for j := range length {
				touch(t, s, p, l[j].Key, l[i].Deadline)
				use(t, s, p, l[i].Key)
				find(t, s, p, l[j].Key)
			}
			checkEnd(t, s, *p)
		}
	}
	s, p := with(t, 10000, 20, whole("a", 5, 1), whole("b", 6, 2), whole("c", 7, 3))
	want := whole("b", 6, 2)
	if x, e := s.Use("b"); !same(x, want) || e != api.OK || strings.Join(s.Keys(), " ") != "a c b" {
		t.Errorf("Use(b) = %v, %d, and then %q", x, e, s.Keys())
	}
	want.Deadline = 99
	if e := s.Touch("a", 99); e != api.OK || strings.Join(s.Keys(), " ") != "c b a" {
		t.Errorf("Touch(a) = %d, and then %q", e, s.Keys())
	}
	p.use("b")
	p.touch("a", 99)
	checkStore(t, s, *p)
}

// P14.2: Touch with all deadlines, earlier and later ones, and with the one that the entry has.
func TestTouchDeadlines(t *testing.T) {
	times := []api.Time{0, 1, 5, 6, 7, 1 << 32, 1 << 63, never - 1, never}
	for _, from := range times {
		for _, to := range times {
			s, p := with(t, 1000, 5, at("a", 6), at("b", from), at("c", never))
			touch(t, s, p, "b", to)
			checkEnd(t, s, *p)
			for _, now := range times {
				c, q := s.Copy(), *p
				expire(t, c, &q, now)
				put(t, c, &q, at("b", from))
				expire(t, c, &q, now)
			}
		}
	}
}

// P14.2: Remove at each place, until nothing is left, and what was removed can be put in again.
func TestRemove(t *testing.T) {
	l := []api.Entry{whole("a", 5, 1), whole("b", never, 2), whole("c", 5, 3), whole("d", 1, 4)}
	var goOn func(s *store.Store, p plain)
	goOn = func(s *store.Store, p plain) {
		checkEnd(t, s, p)
		for _, x := range p.entries {
			c, q := s.Copy(), p
			remove(t, c, &q, x.Key)
			checkNo(t, c, &q, x.Key, api.ErrNone)
			goOn(c, q)
			put(t, c, &q, x)
			checkEnd(t, c, q)
		}
	}
	s, p := with(t, 1000, 4, l...)
	goOn(s, *p)
}

// P14.2: strings that are no keys, and keys with which there is no entry, also after there was one.
func TestNoEntry(t *testing.T) {
	s, p := with(t, 140, 3, at("a", 5), at("ab", 6))
	for _, key := range noKeys() {
		checkNo(t, s, p, key, api.ErrArg)
	}
	for _, key := range []string{"b", "aa", "abc", "A", "a\x00", "\x00a", "a ", strings.Repeat("a", 250)} {
		checkNo(t, s, p, key, api.ErrNone)
	}
	put(t, s, p, at("c", 4)) // evicts a
	put(t, s, p, at("d", 4)) // evicts ab
	checkNo(t, s, p, "a", api.ErrNone)
	checkNo(t, s, p, "ab", api.ErrNone)
	remove(t, s, p, "d")
	checkNo(t, s, p, "d", api.ErrNone)
	expire(t, s, p, 4)
	checkNo(t, s, p, "c", api.ErrNone)
	s, p = open(t, 1, 1)
	for _, key := range noKeys() {
		checkNo(t, s, p, key, api.ErrArg)
	}
	checkNo(t, s, p, "a", api.ErrNone)
}

// P14.3: at each time what is due is taken out, by the deadlines and then by the keys as bytes, whatever the slots and the order of use are.
func TestExpire(t *testing.T) {
	keys := []string{"b", "a", "ab", "aa", "B", "\xff", "\x00", "ä", "z", "10", "9", "1", "a\x00", strings.Repeat("a", 250)}
	times := []api.Time{0, 1, 5, 6, 1 << 31, 1 << 32, 1 << 63, never - 1, never}
	next := numbers(1)
	for round := range 100 {
		s, p := open(t, 10000, 20)
		for i := range keys { // other slots than those in the order of putting in
			put(t, s, p, at(fmt.Sprint("before", i), 3))
		}
		for range keys {
			remove(t, s, p, p.entries[next(len(p.entries))].Key)
		}
		few := 1 + round%len(times)
		for range 2 * len(keys) {
			put(t, s, p, whole(keys[next(len(keys))], times[len(times)-1-next(few)], round))
		}
		for _, now := range times {
			c, q := s.Copy(), *p
			expire(t, c, &q, now)
			expire(t, c, &q, now)
			expire(t, c, &q, 0)
			checkEnd(t, c, q)
		}
	}
	s, _ := with(t, 1000, 9, at("c", 7), at("b", 8), at("d", 7), at("a", 8), at("e", never), at("f", 9))
	if l := s.Expire(8); keysOf(l) != "c d a b" || s.Next() != 9 {
		t.Errorf("Expire(8) = [%s], Next = %d", text(l), s.Next())
	}
	if l := s.Expire(never); keysOf(l) != "f" || s.Next() != never || !slices.Equal(s.Keys(), []string{"e"}) {
		t.Errorf("Expire(never) = [%s], Next = %d, Keys = %q", text(l), s.Next(), s.Keys())
	}
}

// P14.3: Next is the earliest deadline of those that are there, whatever has become of others.
func TestNext(t *testing.T) {
	s, p := with(t, 4*small, 4, at("a", 9))
	for i, step := range []struct {
		do   func()
		want api.Time
	}{
		{func() { put(t, s, p, at("b", 7)) }, 7},
		{func() { put(t, s, p, at("c", never)) }, 7},
		{func() { touch(t, s, p, "b", 12) }, 9},
		{func() { touch(t, s, p, "c", 0) }, 0},
		{func() { expire(t, s, p, 0) }, 9},
		{func() { put(t, s, p, at("a", 30)) }, 12},
		{func() { put(t, s, p, at("d", 31)) }, 12},
		{func() { remove(t, s, p, "b") }, 30},
		{func() { put(t, s, p, sized("e", 2*small)) }, 31}, // evicts a
		{func() { touch(t, s, p, "d", never) }, never},
		{func() { put(t, s, p, at("d", never-1)) }, never - 1},
		{func() { expire(t, s, p, never-2) }, never - 1},
		{func() { expire(t, s, p, never) }, never},
		{func() { remove(t, s, p, "e") }, never},
	} {
		step.do()
		if at := s.Next(); at != step.want {
			t.Fatalf("after step %d: Next = %d, want %d", i, at, step.want)
		}
	}
}

// collect returns what an iterator goes over.
func collect(all func(func(api.Entry) bool)) []api.Entry {
	var l []api.Entry
	all(func(x api.Entry) bool {
		l = append(l, x)
		return true
	})
	return l
}

// P14.4: the loop over All may stop early at each place, and the iterator may be used again, also within itself.
func TestAllStopsAndGoesAgain(t *testing.T) {
	l := []api.Entry{whole("a", 5, 1), whole("b", never, 2), whole("c", 5, 3), whole("d", 1, 4)}
	s, p := with(t, 1000, 4, l...)
	all := s.All()
	for stop := range len(l) + 1 {
		var got []api.Entry
		for x := range all {
			if len(got) == stop {
				break
			}
			got = append(got, x)
		}
		checkList(t, "stopped", got, l[:stop])
		checkList(t, "again", collect(all), l)
	}
	calls := 0
	all(func(api.Entry) bool {
		calls++
		return false
	})
	if calls != 1 {
		t.Errorf("after a stop the loop goes on: %d calls", calls)
	}
	var got []api.Entry
	for x := range all {
		checkList(t, "within", collect(all), l)
		checkList(t, "another within", collect(s.All()), l)
		got = append(got, x)
	}
	checkList(t, "around", got, l)
	checkStore(t, s, *p)
	empty, _ := open(t, 1, 1)
	checkList(t, "empty", collect(empty.All()), nil)
}

// P14.4: Keys and All say what there was when they were called, whatever is done then, also by the loop.
func TestAllAsItWas(t *testing.T) {
	want := []api.Entry{whole("a", 5, 1), whole("b", 3, 2), whole("c", never, 3), whole("d", 8, 4)}
	s, p := with(t, 4*cost(want[0]), 4, want...)
	all, keys := s.All(), s.Keys()
	check := func() {
		t.Helper()
		checkList(t, "All of then", collect(all), want)
		if strings.Join(keys, " ") != "a b c d" {
			t.Fatalf("Keys of then are %q", keys)
		}
		checkStore(t, s, *p)
	}
	for _, do := range []func(){
		func() { use(t, s, p, "a") },
		func() { touch(t, s, p, "b", 77) },
		func() { put(t, s, p, api.Entry{Key: "c", Value: []byte("other"), Tags: []string{"new"}}) },
		func() { put(t, s, p, whole("e", 1, 9)) },
		func() { put(t, s, p, whole("f", 2, 9)) },
		func() { expire(t, s, p, 80) },
		func() { remove(t, s, p, "a") },
		func() { put(t, s, p, whole("a", 6, 9)) },
		func() { put(t, s, p, sized("g", 200)) },
	} {
		do()
		check()
	}
	s, p = with(t, 1000, 4, want...)
	var got []api.Entry
	for x := range s.All() {
		remove(t, s, p, x.Key)
		put(t, s, p, at("new", api.Time(len(got))))
		for _, y := range want[len(got)+1:] {
			touch(t, s, p, y.Key, 99)
		}
		got = append(got, x)
	}
	checkList(t, "around", got, want)
}

// spoil changes all that can be changed of some entries.
func spoil(l []api.Entry) {
	for i, x := range l {
		for j := range x.Value {
			x.Value[j]++
		}
		for j := range x.Tags {
			x.Tags[j] = "spoilt"
		}
		_ = append(x.Value, "further"...)
		_ = append(x.Tags, "further")
		l[i] = api.Entry{Key: "spoilt"}
	}
	_ = append(l, api.Entry{Key: "further"})
}

// P14.1 to P14.4: arguments are neither changed nor kept, and results share no memory with the store or with other results.
func TestSharesNoMemory(t *testing.T) {
	want := []api.Entry{whole("a", 5, 1), whole("b", 3, 2), whole("c", never, 3), whole("d", 3, 4)}
	s, p := open(t, 1000, 4)
	for _, x := range want {
		arg := api.Entry{Key: x.Key, Value: append(make([]byte, 0, 99), x.Value...), Tags: append(make([]string, 0, 9), x.Tags...), Deadline: x.Deadline, Version: x.Version, Stamp: x.Stamp}
		put(t, s, p, arg)
		if !same(arg, x) {
			t.Fatalf("Put has changed its argument to %v", arg)
		}
		spoil([]api.Entry{arg})
		checkStore(t, s, *p)
	}
	all := s.All()
	c, q := s.Copy(), *p
	results := []func() []api.Entry{
		func() []api.Entry { return collect(all) },
		func() []api.Entry { return collect(s.All()) },
		func() []api.Entry { x, _ := s.Find("b"); return []api.Entry{x} },
		func() []api.Entry { x, _ := s.Use("b"); p.use("b"); return []api.Entry{x} },
		func() []api.Entry { l := s.Expire(3); p.expire(3); return l },
		func() []api.Entry { x, _ := s.Remove("a"); p.remove("a"); return []api.Entry{x} },
		func() []api.Entry { l, _ := s.Put(sized("e", 935)); p.put(sized("e", 935)); return l },
		func() []api.Entry { l, _ := s.Put(sized("e", 900)); p.put(sized("e", 900)); return l },
	}
	for i, f := range results {
		l := f()
		if len(l) == 0 && i < len(results)-1 {
			t.Fatalf("result %d has no entries", i)
		}
		kept := twins(l)
		checkList(t, fmt.Sprint("result ", i, " by itself"), l, kept)
		checkList(t, "All of then", collect(all), want)
		checkList(t, fmt.Sprint("result ", i, " later on"), l, kept)
		spoil(l)
		checkStore(t, s, *p)
		checkStore(t, c, q)
		checkList(t, "All of then", collect(all), want)
	}
	keys := c.Keys()
	for i := range keys {
		keys[i] = "spoilt"
	}
	checkEnd(t, c, q)
}

// P14.1 to P14.4: two results of the same call share no memory with each other.
func TestResultsShareNoMemory(t *testing.T) {
	l := []api.Entry{whole("a", 5, 1), whole("b", 5, 2), whole("c", 5, 3)}
	s, _ := with(t, 1000, 3, l...)
	twice := func(name string, f func() []api.Entry, want []api.Entry) {
		t.Helper()
		one, two := f(), f()
		spoil(one)
		checkList(t, name, two, want)
	}
	twice("Find", func() []api.Entry { x, _ := s.Find("b"); return []api.Entry{x} }, l[1:2])
	twice("Use", func() []api.Entry { x, _ := s.Use("c"); return []api.Entry{x} }, l[2:])
	all := s.All()
	twice("All", func() []api.Entry { return collect(all) }, l)
	twice("Expire", func() []api.Entry { return s.Copy().Expire(5) }, l)
	twice("Remove", func() []api.Entry { x, _ := s.Copy().Remove("a"); return []api.Entry{x} }, l[:1])
	twice("Put", func() []api.Entry { out, _ := s.Copy().Put(sized("x", 900)); return out }, l)
	one, two := s.Keys(), s.Keys()
	one[0] = "spoilt"
	if strings.Join(two, " ") != "a b c" || strings.Join(s.Keys(), " ") != "a b c" {
		t.Errorf("Keys = %q, and then %q", two, s.Keys())
	}
}

// P14.4: a copy has all that the store has, and neither of them sees what is done with the other one.
func TestCopy(t *testing.T) {
	l := []api.Entry{whole("a", 5, 1), whole("b", 3, 2), whole("c", never, 3), whole("d", 3, 4)}
	for length := range len(l) + 1 {
		s, p := with(t, 600, 4, l[:length]...)
		for i, do := range []func(s *store.Store, p *plain){
			func(s *store.Store, p *plain) { put(t, s, p, whole("e", 2, 9)) },
			func(s *store.Store, p *plain) { put(t, s, p, sized("f", 500)) },
			func(s *store.Store, p *plain) { put(t, s, p, sized("b", 3)) },
			func(s *store.Store, p *plain) { use(t, s, p, "a") },
			func(s *store.Store, p *plain) { touch(t, s, p, "c", 1) },
			func(s *store.Store, p *plain) { remove(t, s, p, "b") },
			func(s *store.Store, p *plain) { expire(t, s, p, 4) },
		} {
			c, q := s.Copy(), *p
			d, r := c.Copy(), q
			do(c, &q)
			checkStore(t, s, *p)
			checkStore(t, d, r)
			do(d, &r)
			checkStore(t, s, *p)
			checkEnd(t, c, q)
			checkEnd(t, d, r)
			if i%2 == 0 { // the store itself goes on, and its copies stay
				do(s, p)
				checkStore(t, c, q)
				checkStore(t, d, r)
			}
		}
	}
}

// P14.4: each of several copies goes on in a way of its own, in turn.
func TestCopiesInTurn(t *testing.T) {
	next := numbers(3)
	s, p := with(t, 700, 5, whole("a", 5, 1), whole("b", 3, 2))
	all, like := []*store.Store{s}, []*plain{p}
	for step := range 600 {
		i := step % len(all)
		doAny(t, all[i], like[i], next, step)
		if step%40 == 0 {
			q := *like[i]
			all, like = append(all, all[i].Copy()), append(like, &q)
		}
		for k, x := range all {
			checkStore(t, x, *like[k])
		}
	}
	for k, x := range all {
		checkEnd(t, x, *like[k])
	}
}

// doAny does something with a store and with one after the definition.
func doAny(t *testing.T, s *store.Store, p *plain, next func(int) int, n int) {
	t.Helper()
	key := []string{"a", "b", "c", "dd", "ee", "a/b", "\x00", "\xff\xff"}[next(8)]
	deadline := append([]api.Time{never, never, 0, never - 1}, api.Time(next(30)))[next(5)]
	switch next(12) {
	case 0, 1, 2:
		put(t, s, p, api.Entry{Key: key, Value: make([]byte, next(80)), Tags: someTags(next(4), 1+next(5)), Deadline: deadline, Version: uint64(n), Stamp: uint64(next(50))})
	case 3:
		put(t, s, p, api.Entry{Key: key, Value: make([]byte, next(1000)), Deadline: deadline, Version: uint64(n)})
	case 4:
		put(t, s, p, api.Entry{Key: key, Tags: []string{"b", "a"}[next(2):], Deadline: deadline, Version: uint64(n)})
	case 5:
		find(t, s, p, key)
	case 6, 7:
		use(t, s, p, key)
	case 8, 9:
		touch(t, s, p, key, deadline)
	case 10:
		remove(t, s, p, key)
	case 11:
		expire(t, s, p, api.Time(next(15)))
	}
}

// P14.1 to P14.5: all ways of up to four steps with three keys after the definition, going on with copies; what is an error changes nothing, and what is done with a copy does not change the store.
func TestAfterDefinition(t *testing.T) {
	keys := []string{"a", "b", "c"}
	var steps []func(s *store.Store, p *plain)
	for _, key := range keys {
		for _, x := range []api.Entry{at(key, 2), sized(key, 5), sized(key, 2*small), {Key: key, Value: make([]byte, 3*small)}} {
			steps = append(steps, func(s *store.Store, p *plain) { put(t, s, p, x) })
		}
		steps = append(steps,
			func(s *store.Store, p *plain) { use(t, s, p, key) },
			func(s *store.Store, p *plain) { touch(t, s, p, key, 1) },
			func(s *store.Store, p *plain) { remove(t, s, p, key) })
	}
	steps = append(steps,
		func(s *store.Store, p *plain) { expire(t, s, p, 1) },
		func(s *store.Store, p *plain) { expire(t, s, p, never) })
	var goOn func(s *store.Store, p plain, left int)
	goOn = func(s *store.Store, p plain, left int) {
		if left == 0 {
			return
		}
		for _, do := range steps {
			c, q := s.Copy(), p
			q.entries = twins(p.entries)
			do(c, &q)
			goOn(c, q, left-1)
		}
		checkStore(t, s, p)
	}
	s, p := open(t, 3*small+5, 3)
	goOn(s, *p, 4)
	s, p = open(t, 1000, 2)
	goOn(s, *p, 3)
}

// P14.1 to P14.5: long runs of one store, without copies, after the definition, with different budgets and seeds.
func TestLongRuns(t *testing.T) {
	for seed := range uint64(150) {
		next := numbers(seed)
		bytes, entries := 1+next(1500), 1+next(9)
		s, e := store.New(bytes, entries, seed*seed*seed<<30)
		if e != api.OK {
			t.Fatalf("New(%d, %d) = %d", bytes, entries, e)
		}
		p := &plain{bytes: bytes, most: entries}
		for n := range 400 {
			doAny(t, s, p, next, n)
		}
		checkEnd(t, s, *p)
	}
}

// P14.5: what Put evicts is the beginning of the order of use, without the entry whose place is taken, and no more than is needed: with the last one of them still there it would be too much.
func TestEvictedIsBeginning(t *testing.T) {
	next := numbers(8)
	for range 3000 {
		s, _ := open(t, 100+next(900), 1+next(6))
		bytes, entries := s.Budget()
		for range 12 {
			s.Put(sized(string([]byte{byte('a' + next(9))}), next(100)))
		}
		x := sized(string([]byte{byte('a' + next(9))}), next(300))
		before := slices.DeleteFunc(collect(s.All()), func(y api.Entry) bool { return y.Key == x.Key })
		evicted, e := s.Put(x)
		if e != api.OK {
			if cost(x) <= bytes || e != api.ErrTooBig {
				t.Fatalf("Put([%s]) = %d with %d bytes", text([]api.Entry{x}), e, bytes)
			}
			continue
		}
		checkList(t, "evicted and then All", slices.Concat(evicted, collect(s.All())), append(before, x))
		n, k := s.Used()
		if n > bytes || k > entries {
			t.Fatalf("Used = %d, %d, with the budgets %d, %d", n, k, bytes, entries)
		}
		if len(evicted) > 0 && n+cost(evicted[len(evicted)-1]) <= bytes && k < entries {
			t.Fatalf("[%s] is evicted without need", text(evicted[len(evicted)-1:]))
		}
	}
}

// P14.5: what was put in is found until it is taken out, replaced, evicted or expired: all that was put in and has not come back is there.
func TestNothingIsLost(t *testing.T) {
	next := numbers(9)
	for range 100 {
		s, _ := open(t, 100+next(3000), 1+next(20))
		there := map[string]api.Entry{}
		back := func(l []api.Entry, e api.Errno) {
			t.Helper()
			for _, x := range l {
				if y, ok := there[x.Key]; !ok || !same(x, y) || e != api.OK {
					t.Fatalf("what comes back is %v, %d, and was %v", x, e, y)
				}
				delete(there, x.Key)
			}
		}
		for n := range 200 {
			key := fmt.Sprint(next(40))
			switch next(5) {
			case 0, 1:
				x := api.Entry{Key: key, Value: make([]byte, next(30)), Deadline: api.Time(n + next(50)), Version: uint64(n)}
				delete(there, key)
				back(s.Put(x))
				there[key] = x
			case 2:
				if y, ok := there[key]; ok && s.Touch(key, api.Time(n)) == api.OK {
					y.Deadline = api.Time(n)
					there[key] = y
				}
			case 3:
				if x, e := s.Remove(key); e == api.OK {
					back([]api.Entry{x}, e)
				}
			case 4:
				back(s.Expire(api.Time(n-next(20)*next(2))), api.OK)
			}
			if _, k := s.Used(); k != len(there) {
				t.Fatalf("there are %d entries, want %d", k, len(there))
			}
			for key, y := range there {
				if x, e := s.Find(key); !same(x, y) || e != api.OK {
					t.Fatalf("Find(%q) = %v, %d, want %v", key, x, e, y)
				}
			}
		}
	}
}

// P14.1, P14.5: the seed changes no result.
func TestSeeds(t *testing.T) {
	for run := range uint64(20) {
		var all []*store.Store
		seeds := []uint64{0, 1, 2, 77, 1 << 31, 1 << 32, 1 << 63, math.MaxUint64}
		for _, seed := range seeds {
			s, e := store.New(1200, 9, seed)
			if e != api.OK {
				t.Fatalf("New with the seed %d = %d", seed, e)
			}
			next, p := numbers(run), &plain{bytes: 1200, most: 9}
			for n := range 200 {
				doAny(t, s, p, next, n)
			}
			all = append(all, s)
		}
		for i, s := range all[1:] {
			checkList(t, fmt.Sprint("with the seed ", seeds[i+1]), collect(s.All()), collect(all[0].All()))
			checkList(t, fmt.Sprint("with the seed ", seeds[i+1]), s.Expire(never), all[0].Copy().Expire(never))
		}
	}
}

// P14.1 to P14.4: nil and zero stores.
func TestNilAndZero(t *testing.T) {
	for i, s := range []*store.Store{nil, {}, new(store.Store)} {
		for _, x := range []api.Entry{whole("a", 5, 1), {}, {Key: "k", Tags: []string{"b", "a"}}, sized("k", 65537), sized("k", 65536)} {
			if l, e := s.Put(x); len(l) != 0 || e != api.ErrNil {
				t.Errorf("%d: Put = [%s], %d", i, text(l), e)
			}
		}
		for _, key := range append(noKeys(), "a") {
			if x, e := s.Find(key); !same(x, api.Entry{}) || e != api.ErrNil {
				t.Errorf("%d: Find = %v, %d", i, x, e)
			}
			if x, e := s.Use(key); !same(x, api.Entry{}) || e != api.ErrNil {
				t.Errorf("%d: Use = %v, %d", i, x, e)
			}
			if x, e := s.Remove(key); !same(x, api.Entry{}) || e != api.ErrNil {
				t.Errorf("%d: Remove = %v, %d", i, x, e)
			}
			if e := s.Touch(key, 5); e != api.ErrNil {
				t.Errorf("%d: Touch = %d", i, e)
			}
		}
		if l := s.Expire(never); len(l) != 0 || s.Next() != never || len(s.Keys()) != 0 {
			t.Errorf("%d: Expire = [%s], Next = %d, Keys = %q", i, text(l), s.Next(), s.Keys())
		}
		if all := s.All(); all == nil || len(collect(all)) != 0 {
			t.Errorf("%d: All is nil or goes over something", i)
		}
		if n, k := s.Used(); n != 0 || k != 0 {
			t.Errorf("%d: Used = %d, %d", i, n, k)
		}
		if n, k := s.Budget(); n != 0 || k != 0 {
			t.Errorf("%d: Budget = %d, %d", i, n, k)
		}
		if c := s.Copy(); c != nil {
			t.Errorf("%d: Copy = %v", i, c)
		}
	}
}

// P1, P0.5: as many entries as there may be, in time that grows as they do.
func TestMany(t *testing.T) {
	const most = account.MaxEntries
	s, _ := open(t, account.MaxBytes, most)
	key := func(i int) string { return fmt.Sprint("key/", i) }
	for i := range most {
		if l, e := s.Put(at(key(i), api.Time(i/2))); len(l) != 0 || e != api.OK {
			t.Fatalf("Put of %d = [%s], %d", i, text(l), e)
		}
	}
	for i := range 1000 {
		if l, e := s.Put(at(key(most+i), never)); keysOf(l) != key(i) || e != api.OK {
			t.Fatalf("Put of %d = [%s], %d", most+i, text(l), e)
		}
	}
	if _, k := s.Used(); k != most {
		t.Fatalf("there are %d entries", k)
	}
	if l := s.Expire(most / 4); len(l) != most/2+2-1000 || l[0].Key != key(1000) || l[len(l)-1].Deadline != most/4 {
		t.Fatalf("%d entries expire", len(l))
	}
	for i := most - 1; i > most/2+1; i-- {
		if x, e := s.Remove(key(i)); x.Key != key(i) || e != api.OK {
			t.Fatalf("Remove of %d = %v, %d", i, x, e)
		}
	}
	if l := s.Keys(); len(l) != 1000 || l[0] != key(most) || l[999] != key(most+999) {
		t.Fatalf("%d entries are left", len(l))
	}
}

// held returns how many bytes of memory are held.
func held() int {
	var m runtime.MemStats
	runtime.GC()
	runtime.ReadMemStats(&m)
	return int(m.HeapAlloc)
}

// P0.5: nothing is kept of entries that are there no more.
func TestNothingIsKept(t *testing.T) {
	s, _ := open(t, account.MaxBytes, 2000)
	for i := range 1000 {
		s.Put(api.Entry{Key: fmt.Sprint(i), Value: make([]byte, 65536), Deadline: 5})
	}
	before := held()
	for i := range 500 {
		s.Remove(fmt.Sprint(i))
	}
	s.Expire(5)
	after := held()
	if n, k := s.Used(); n != 0 || k != 0 || after+50<<20 > before {
		t.Errorf("Used = %d, %d, and of %d bytes %d are left", n, k, before, after)
	}
	runtime.KeepAlive(s)
}

// P0.5: a store with few entries stays small, however many there were one after the other.
func TestStaysSmall(t *testing.T) {
	s, p := with(t, 1000, 2, at("a", 5), at("b", 5))
	before := held()
	for i := range 200000 {
		key := string([]byte{byte('a' + i%5)})
		s.Put(at(key, api.Time(i)))
		p.put(at(key, api.Time(i)))
	}
	if after := held(); after > before+4<<20 {
		t.Errorf("%d bytes are held, and there were %d", after, before)
	}
	checkEnd(t, s, *p)
}
