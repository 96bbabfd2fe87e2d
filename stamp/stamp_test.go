package stamp_test

import (
	"fmt"
	"maps"
	"math"
	"reflect"
	"runtime"
	"slices"
	"testing"

	"tagcache/api"
	"tagcache/stamp"
)

const (
	never    = api.Never
	lastTag  = 1<<16 - 1
	maxGrace = api.Time(1 << 40)
)

// noTags returns numbers of no tag, such as are one in fewer bits too.
func noTags() []int {
	return []int{-1, -2, -lastTag, -lastTag - 1, -lastTag - 2, -1 << 31, -1 << 32, -1<<32 + 5, math.MinInt, math.MinInt + 5, lastTag + 1, lastTag + 2, lastTag + 6, 2*lastTag + 2, 1<<31 - 1, 1 << 31, 1 << 32, 1<<32 + 5, math.MaxInt - 1, math.MaxInt}
}

// someTimes returns times at both ends and between them.
func someTimes() []api.Time {
	return []api.Time{0, 1, 2, 7, 8, 1<<31 - 1, 1 << 31, 1 << 32, 1<<32 + 1, maxGrace - 1, maxGrace, maxGrace + 1, 1<<63 - 1, 1 << 63, never - maxGrace - 1, never - maxGrace, never - maxGrace + 1, never - 2, never - 1, never}
}

// soft is a soft purge.
func soft(n uint64, at api.Time) api.Soft { return api.Soft{Stamp: n, At: at} }

// known is what is known of a tag.
func known(tag int, hard uint64, l ...api.Soft) api.Stamped {
	return api.Stamped{Tag: tag, Hard: hard, Soft: l}
}

// plain is stamps after the definition, word by word. Whatever is over is forgotten at once.
type plain struct {
	grace, now api.Time
	last       uint64
	hard       map[int]uint64
	soft       map[int][]api.Soft
}

// isTag reports whether a number is that of a tag.
func isTag(n int) bool { return 0 <= n && n <= lastTag }

// isOver reports whether a soft purge is over at a time.
func isOver(p api.Soft, grace, now api.Time) bool {
	end := p.At + grace
	if p.At == never || end < p.At || end == never {
		return false
	}
	return end <= now
}

// advance lets the time go on.
func (p *plain) advance(now api.Time) api.Errno {
	if now > p.now {
		p.now = now
	}
	p.forgetOver()
	return api.OK
}

// forgetOver forgets the soft purges that are over.
func (p *plain) forgetOver() {
	for tag, l := range p.soft {
		var young []api.Soft
		for _, x := range l {
			if !isOver(x, p.grace, p.now) {
				young = append(young, x)
			} else if x.Stamp > p.hard[tag] {
				p.hard[tag] = x.Stamp
			}
		}
		p.soft[tag] = young
	}
}

// other counts a purge.
func (p *plain) other(now api.Time) (uint64, api.Errno) {
	if p.last == math.MaxUint64 {
		return 0, api.ErrFull
	}
	p.advance(now)
	p.last++
	return p.last, api.OK
}

// purge purges a tag hard.
func (p *plain) purge(tag int, now api.Time) (uint64, api.Errno) {
	if !isTag(tag) {
		return 0, api.ErrArg
	}
	n, e := p.other(now)
	if e == api.OK {
		p.hard[tag] = n
		p.soft[tag] = nil
	}
	return n, e
}

// purgeSoft purges a tag softly.
func (p *plain) purgeSoft(tag int, now api.Time) (uint64, api.Errno) {
	if !isTag(tag) {
		return 0, api.ErrArg
	}
	n, e := p.other(now)
	if e != api.OK {
		return n, e
	}
	l := slices.Clone(p.soft[tag])
	if len(l) > 0 && l[len(l)-1].At == p.now {
		l[len(l)-1].Stamp = n
	} else {
		l = append(l, soft(n, p.now))
	}
	p.soft[tag] = l
	p.forgetOver()
	return n, e
}

// is reports whether something is known of a tag.
func (p *plain) is(tag int) bool { return p.hard[tag] > 0 || len(p.soft[tag]) > 0 }

// forget forgets all that is known of a tag.
func (p *plain) forget(tag int) api.Errno {
	if !isTag(tag) {
		return api.ErrArg
	}
	if !p.is(tag) {
		return api.ErrNone
	}
	delete(p.hard, tag)
	delete(p.soft, tag)
	return api.OK
}

// of returns what is known of a tag.
func (p *plain) of(tag int) (api.Stamped, api.Errno) {
	if !isTag(tag) {
		return api.Stamped{}, api.ErrArg
	}
	return known(tag, p.hard[tag], p.soft[tag]...), api.OK
}

// first returns the time of the first soft purge of a tag after a stamp.
func (p *plain) first(tag int, since uint64) (api.Time, bool, api.Errno) {
	if !isTag(tag) {
		return 0, false, api.ErrArg
	}
	for _, x := range p.soft[tag] {
		if x.Stamp > since {
			return x.At, true, api.OK
		}
	}
	return 0, false, api.OK
}

// tags returns the numbers of all tags of which something is known.
func (p *plain) tags() []int {
	met := maps.Clone(p.hard)
	for tag := range p.soft {
		met[tag] = 0
	}
	var l []int
	for tag := range met {
		if p.is(tag) {
			l = append(l, tag)
		}
	}
	slices.Sort(l)
	return l
}

// list returns what is known of all tags.
func (p *plain) list() []api.Stamped {
	var l []api.Stamped
	for _, tag := range p.tags() {
		l = append(l, known(tag, p.hard[tag], p.soft[tag]...))
	}
	return l
}

// clone returns a copy.
func (p *plain) clone() *plain {
	return &plain{p.grace, p.now, p.last, maps.Clone(p.hard), maps.Clone(p.soft)}
}

// text says what stamps after the definition are.
func (p *plain) text() string {
	return fmt.Sprintf("%v with the grace %d at %d after %d", p.list(), p.grace, p.now, p.last)
}

// open returns stamps with a grace, and such after the definition.
func open(t *testing.T, grace api.Time) (*stamp.Stamps, *plain) {
	t.Helper()
	s, e := stamp.New(grace)
	if s == nil || e != api.OK {
		t.Fatalf("New(%d) = %v, %d", grace, s, e)
	}
	return s, &plain{grace: grace, hard: map[int]uint64{}, soft: map[int][]api.Soft{}}
}

// restore returns stamps in a state, and such after the definition.
func restore(t *testing.T, grace, now api.Time, last uint64, l ...api.Stamped) (*stamp.Stamps, *plain) {
	t.Helper()
	s, e := stamp.Restore(grace, now, last, l)
	if s == nil || e != api.OK {
		t.Fatalf("Restore(%d, %d, %d, %v) = %v, %d", grace, now, last, l, s, e)
	}
	p := &plain{grace, now, last, map[int]uint64{}, map[int][]api.Soft{}}
	for _, x := range l {
		p.hard[x.Tag] = x.Hard
		p.soft[x.Tag] = slices.Clone(x.Soft)
	}
	check(t, s, p)
	return s, p
}

// same reports whether the same is known of both tags, whether the lists are nil or empty.
func same(a, b api.Stamped) bool {
	return a.Tag == b.Tag && a.Hard == b.Hard && slices.Equal(a.Soft, b.Soft)
}

// check compares all that stamps say of themselves with what it should be, also for some tags of which nothing need be known.
func check(t *testing.T, s *stamp.Stamps, p *plain, more ...int) {
	t.Helper()
	if s.Last() != p.last || s.Now() != p.now || s.Grace() != p.grace {
		t.Fatalf("%s: Last = %d, Now = %d, Grace = %d", p.text(), s.Last(), s.Now(), s.Grace())
	}
	tags := p.tags()
	if l := s.Tags(); !slices.Equal(l, tags) {
		t.Fatalf("%s: Tags = %v", p.text(), l)
	}
	if l := s.List(); !slices.EqualFunc(l, p.list(), same) {
		t.Fatalf("%s: List = %v", p.text(), l)
	}
	for _, tag := range append(tags, more...) {
		checkTag(t, s, p, tag)
	}
}

// checkTag compares what stamps say of a tag with what it should be.
func checkTag(t *testing.T, s *stamp.Stamps, p *plain, tag int) {
	t.Helper()
	x, e := s.Of(tag)
	if want, f := p.of(tag); !same(x, want) || e != f {
		t.Fatalf("%s: Of(%d) = %v, %d, want %v, %d", p.text(), tag, x, e, want, f)
	}
	since := []uint64{0, 1, p.hard[tag], p.last - 1, p.last, p.last + 1, math.MaxUint64}
	for _, x := range p.soft[tag] {
		since = append(since, x.Stamp-1, x.Stamp, x.Stamp+1)
	}
	for _, n := range since {
		at, is, e := s.First(tag, n)
		if a, i, f := p.first(tag, n); at != a || is != i || e != f {
			t.Fatalf("%s: First(%d, %d) = %d, %t, %d, want %d, %t, %d", p.text(), tag, n, at, is, e, a, i, f)
		}
	}
}

// kind is what a step does.
type kind int

const (
	hardly kind = iota
	softly
	other
	advance
	forget
	kinds
)

// step is a call that may change something. Advance and other have no tag, and forget has no time.
type step struct {
	kind kind
	tag  int
	at   api.Time
}

// do makes a step with both, and compares what is returned.
func do(t *testing.T, s *stamp.Stamps, p *plain, x step) {
	t.Helper()
	before := p.text()
	var n, want uint64
	var e, f api.Errno
	switch x.kind {
	case hardly:
		n, e = s.Hard(x.tag, x.at)
		want, f = p.purge(x.tag, x.at)
	case softly:
		n, e = s.Soft(x.tag, x.at)
		want, f = p.purgeSoft(x.tag, x.at)
	case other:
		n, e = s.Other(x.at)
		want, f = p.other(x.at)
	case advance:
		e, f = s.Advance(x.at), p.advance(x.at)
	case forget:
		e, f = s.Forget(x.tag), p.forget(x.tag)
	}
	if n != want || e != f {
		t.Fatalf("%s: step %v = %d, %d, want %d, %d", before, x, n, e, want, f)
	}
}

// run makes some steps with both.
func run(t *testing.T, s *stamp.Stamps, p *plain, l ...step) {
	t.Helper()
	for _, x := range l {
		do(t, s, p, x)
	}
}

// checkOf compares what is known of a tag with what it should be.
func checkOf(t *testing.T, s *stamp.Stamps, want api.Stamped) {
	t.Helper()
	if x, e := s.Of(want.Tag); !same(x, want) || e != api.OK {
		t.Fatalf("Of(%d) = %v, %d, want %v", want.Tag, x, e, want)
	}
}

// checkFirst compares the time of a first soft purge with what it should be.
func checkFirst(t *testing.T, s *stamp.Stamps, tag int, since uint64, want api.Time, there bool) {
	t.Helper()
	if at, is, e := s.First(tag, since); at != want || is != there || e != api.OK {
		t.Fatalf("First(%d, %d) = %d, %t, %d, want %d, %t", tag, since, at, is, e, want, there)
	}
}

// checkStamp compares the stamp of a purge with what it should be.
func checkStamp(t *testing.T, n uint64, e api.Errno, want uint64) {
	t.Helper()
	if n != want || e != api.OK {
		t.Fatalf("the stamp is %d, %d, want %d", n, e, want)
	}
}

// numbers returns numbers that look as if they had no rule, but are the same ones in each run.
func numbers(seed uint64) func(below int) int {
	return func(below int) int {
		seed = seed*6364136223846793005 + 1442695040888963407
		return int(seed>>33) % below
	}
}

// eachWay calls a function with all ways of some number of steps.
func eachWay(steps []step, n int, f func([]step)) {
	way := make([]step, n)
	var goOn func(i int)
	goOn = func(i int) {
		if i == n {
			f(way)
			return
		}
		for _, x := range steps {
			way[i] = x
			goOn(i + 1)
		}
	}
	goOn(0)
}

// P16.1 to P16.4: the examples of the chapter.
func TestExamples(t *testing.T) {
	s, _ := open(t, 10)
	n, e := s.Soft(3, 5)
	checkStamp(t, n, e, 1)
	n, e = s.Soft(3, 7)
	checkStamp(t, n, e, 2)
	n, e = s.Hard(4, 7)
	checkStamp(t, n, e, 3)
	n, e = s.Soft(3, 7)
	checkStamp(t, n, e, 4)
	checkFirst(t, s, 3, 0, 5, true)
	checkFirst(t, s, 3, 1, 7, true)
	checkFirst(t, s, 3, 4, 0, false)
	checkOf(t, s, known(3, 0, soft(1, 5), soft(4, 7)))
	if e := s.Advance(15); e != api.OK {
		t.Errorf("Advance(15) = %d", e)
	}
	checkOf(t, s, known(3, 1, soft(4, 7)))
	n, e = s.Other(6)
	checkStamp(t, n, e, 5)
	if s.Now() != 15 || s.Last() != 5 {
		t.Errorf("Now = %d, Last = %d", s.Now(), s.Last())
	}
	n, e = s.Hard(3, 16)
	checkStamp(t, n, e, 6)
	if l := s.List(); !slices.EqualFunc(l, []api.Stamped{known(3, 6), known(4, 3)}, same) {
		t.Errorf("List = %v", l)
	}
	if e, f := s.Forget(4), s.Forget(4); e != api.OK || f != api.ErrNone {
		t.Errorf("Forget(4) = %d, and again %d", e, f)
	}
	checkOf(t, s, known(9, 0))
	if e := s.Advance(3); e != api.OK {
		t.Errorf("Advance(3) = %d", e)
	}
	if n, e := s.Hard(65536, 20); n != 0 || e != api.ErrArg {
		t.Errorf("Hard(65536, 20) = %d, %d", n, e)
	}
	if s.Now() != 16 {
		t.Errorf("Now = %d", s.Now())
	}
	if s, e := stamp.New(1099511627777); s != nil || e != api.ErrArg {
		t.Errorf("New(1099511627777) = %v, %d", s, e)
	}
}

// P16.1: New has nothing that is known, for all graces that are allowed, and the limits are what the chapter says.
func TestNew(t *testing.T) {
	if stamp.MaxTags != 65536 || stamp.MaxGrace != 1099511627776 {
		t.Errorf("MaxTags = %d, MaxGrace = %d", stamp.MaxTags, stamp.MaxGrace)
	}
	for _, grace := range someTimes() {
		if grace > maxGrace {
			if s, e := stamp.New(grace); s != nil || e != api.ErrArg {
				t.Errorf("New(%d) = %v, %d", grace, s, e)
			}
			continue
		}
		s, p := open(t, grace)
		check(t, s, p, 0, 1, 7, lastTag-1, lastTag)
		check(t, s.Copy(), p, 0, lastTag)
		run(t, s, p, step{softly, lastTag, 3}, step{hardly, 0, 2})
		check(t, s, p, 1)
		r, q := open(t, grace) // another one is not changed by that
		check(t, r, q, 0, lastTag)
	}
	for _, grace := range []api.Time{1<<41 - 1, 1 << 41, 1<<32 + 1<<41, 1<<40 + 1<<32, 1<<63 + 5} {
		if s, e := stamp.New(grace); s != nil || e != api.ErrArg {
			t.Errorf("New(%d) = %v, %d", grace, s, e)
		}
	}
}

// P16.1, P16.3: a hard purge takes the place of all that is known, of its own tag alone.
func TestHard(t *testing.T) {
	s, p := open(t, 10)
	for i, x := range []step{{hardly, 3, 1}, {softly, 3, 2}, {softly, 4, 2}, {softly, 3, 4}, {hardly, 3, 5}, {hardly, 3, 5}, {softly, 3, 5}, {hardly, 4, 0}} {
		do(t, s, p, x)
		if s.Last() != uint64(i+1) {
			t.Errorf("Last = %d after %d purges", s.Last(), i+1)
		}
		check(t, s, p, 2, 3, 4, 5)
	}
	checkOf(t, s, known(3, 6, soft(7, 5)))
	checkOf(t, s, known(4, 8))
}

// P16.1, P16.3: soft purges at the same time are one, with the last stamp; the same time is also one that is not later than the time before.
func TestSoftAtTheSameTime(t *testing.T) {
	s, p := open(t, 10)
	run(t, s, p, step{softly, 3, 5}, step{softly, 3, 5})
	checkOf(t, s, known(3, 0, soft(2, 5)))
	run(t, s, p, step{softly, 3, 2}, step{softly, 3, 0})
	checkOf(t, s, known(3, 0, soft(4, 5)))
	run(t, s, p, step{softly, 4, 1}, step{softly, 3, 5})
	checkOf(t, s, known(3, 0, soft(6, 5)))
	checkOf(t, s, known(4, 0, soft(5, 5)))
	run(t, s, p, step{softly, 3, 6}, step{softly, 3, 5}, step{softly, 3, 7}, step{softly, 3, 7})
	checkOf(t, s, known(3, 0, soft(6, 5), soft(8, 6), soft(10, 7)))
	run(t, s, p, step{hardly, 3, 7}, step{softly, 3, 7})
	checkOf(t, s, known(3, 11, soft(12, 7)))
	check(t, s, p)
}

// P16.2: soft purges are over when grace ticks have passed since their times, not before; the last of them is the last hard purge then.
func TestOver(t *testing.T) {
	for _, grace := range []api.Time{1, 2, 3, 10, 1 << 32, maxGrace - 1, maxGrace} {
		for _, at := range []api.Time{0, 1, 5, 1 << 32, 1 << 63} {
			for _, first := range []kind{hardly, other} {
				for _, by := range []step{{advance, 0, 0}, {other, 0, 0}, {hardly, 8, 0}, {softly, 8, 0}, {hardly, 7, 0}, {softly, 7, 0}} {
					for _, late := range []api.Time{at + grace - 1, at + grace, at + grace + 1, at + 2*grace, never - 1, never} {
						s, p := open(t, grace)
						run(t, s, p, step{first, 7, 0}, step{softly, 7, at}, step{softly, 7, at + 1}, step{softly, 7, at + grace/2 + 1})
						run(t, s, p, step{by.kind, by.tag, late})
						check(t, s, p, 7, 8)
					}
				}
			}
		}
	}
}

// P16.2: with each tick at most one of many soft purges is over, and what is known of the tag goes through all its states.
func TestOverTickByTick(t *testing.T) {
	s, p := open(t, 10)
	for i := range 30 {
		run(t, s, p, step{softly, i % 2, api.Time(i)}, step{softly, 2, api.Time(i - i%3)})
		check(t, s, p, 0, 1, 2, 3)
	}
	for i := range 45 {
		do(t, s, p, step{advance, 0, api.Time(i)})
		check(t, s, p, 0, 1, 2, 3)
	}
	checkOf(t, s, known(0, 57))
	checkOf(t, s, known(1, 59))
	checkOf(t, s, known(2, 60))
}

// P16.1, P16.2: with the grace 0 a soft purge is over at once, but at the time Never.
func TestNoGrace(t *testing.T) {
	s, p := open(t, 0)
	run(t, s, p, step{softly, 3, 0})
	checkOf(t, s, known(3, 1))
	run(t, s, p, step{softly, 3, 0}, step{softly, 4, 7}, step{softly, 3, 7}, step{softly, 3, 7})
	checkOf(t, s, known(3, 5))
	checkOf(t, s, known(4, 3))
	checkFirst(t, s, 3, 0, 0, false)
	run(t, s, p, step{softly, 3, never - 1})
	checkOf(t, s, known(3, 6))
	check(t, s, p)
	run(t, s, p, step{softly, 3, never}, step{softly, 4, 0}, step{softly, 3, 0})
	checkOf(t, s, known(3, 6, soft(9, never)))
	checkOf(t, s, known(4, 3, soft(8, never)))
	check(t, s, p)
}

// P16.1, P16.2, P16.3: the time of a soft purge plus the grace may be Never, and then it is never over.
func TestNeverOver(t *testing.T) {
	for _, grace := range []api.Time{0, 1, 2, 10, maxGrace} {
		for _, at := range []api.Time{never - grace - 2, never - grace - 1, never - grace, never - grace + 1, never - 2, never - 1, never} {
			s, p := open(t, grace)
			run(t, s, p, step{softly, 5, at}, step{other, 0, never - 1})
			check(t, s, p, 5)
			run(t, s, p, step{softly, 5, never - 1}, step{advance, 0, never})
			check(t, s, p, 5)
			run(t, s, p, step{softly, 5, never}, step{softly, 5, 3}, step{softly, 6, never})
			check(t, s, p, 5, 6)
			x, e := s.Of(5)
			if l := x.Soft; e != api.OK || len(l) == 0 || l[len(l)-1] != soft(5, never) {
				t.Errorf("grace %d: Of(5) = %v, %d", grace, x, e)
			}
			checkFirst(t, s, 5, 4, never, true)
			checkFirst(t, s, 5, 5, 0, false)
			run(t, s, p, step{hardly, 5, 0})
			checkOf(t, s, known(5, 7))
			check(t, s, p, 5, 6)
		}
	}
}

// P16.1, P16.2: the time is the later one of the time before and that of the call, in each call with a time.
func TestTimes(t *testing.T) {
	for _, k := range []kind{hardly, softly, other, advance} {
		for _, before := range someTimes() {
			for _, given := range someTimes() {
				s, p := open(t, 5)
				do(t, s, p, step{advance, 0, before})
				do(t, s, p, step{k, 3, given})
				if want := max(before, given); s.Now() != want || p.now != want {
					t.Fatalf("Now = %d after %d and %d", s.Now(), before, given)
				}
				check(t, s, p, 3)
				do(t, s, p, step{softly, 3, 1})
				check(t, s, p, 3)
			}
		}
	}
}

// P16.1, P16.2, P16.3: for what is no tag there is ErrArg, and nothing changes, not even the time.
func TestNoTags(t *testing.T) {
	for _, grace := range []api.Time{0, 10, maxGrace} {
		s, p := open(t, grace)
		run(t, s, p, step{softly, 5, 3}, step{hardly, 0, 4}, step{softly, lastTag, 4})
		for _, tag := range noTags() {
			for _, at := range []api.Time{0, 4, 9, 20, never} {
				checkNoTag(t, s, tag, at)
			}
		}
		check(t, s, p, 1, lastTag-1)
		for _, tag := range []int{0, 1, 5, lastTag - 1, lastTag} { // and these are tags
			run(t, s, p, step{softly, tag, 5}, step{hardly, tag, 5}, step{softly, tag, 6})
			check(t, s, p)
			run(t, s, p, step{forget, tag, 0}, step{forget, tag, 0})
			check(t, s, p, tag)
		}
	}
}

// checkNoTag checks that nothing can be done with a number that is not that of a tag.
func checkNoTag(t *testing.T, s *stamp.Stamps, tag int, at api.Time) {
	t.Helper()
	if n, e := s.Hard(tag, at); n != 0 || e != api.ErrArg {
		t.Fatalf("Hard(%d, %d) = %d, %d", tag, at, n, e)
	}
	if n, e := s.Soft(tag, at); n != 0 || e != api.ErrArg {
		t.Fatalf("Soft(%d, %d) = %d, %d", tag, at, n, e)
	}
	if e := s.Forget(tag); e != api.ErrArg {
		t.Fatalf("Forget(%d) = %d", tag, e)
	}
	if x, e := s.Of(tag); x.Tag != 0 || x.Hard != 0 || len(x.Soft) != 0 || e != api.ErrArg {
		t.Fatalf("Of(%d) = %v, %d", tag, x, e)
	}
	if got, is, e := s.First(tag, uint64(at)); got != 0 || is || e != api.ErrArg {
		t.Fatalf("First(%d, %d) = %d, %t, %d", tag, at, got, is, e)
	}
}

// P16.1: after the last stamp there are no purges, and nothing changes then, not even the time; all else goes on.
func TestFull(t *testing.T) {
	for _, x := range []step{{hardly, 3, 12}, {softly, 3, 12}, {other, 0, 12}} {
		s, p := restore(t, 10, 11, math.MaxUint64-2, known(3, 4, soft(7, 5), soft(math.MaxUint64-2, 9)))
		run(t, s, p, step{softly, 4, 11}, x)
		if s.Last() != math.MaxUint64 || s.Now() != 12 {
			t.Fatalf("Last = %d, Now = %d", s.Last(), s.Now())
		}
		check(t, s, p)
		for _, at := range []api.Time{0, 12, 16, 99, never} {
			for _, y := range []step{{hardly, 3, at}, {softly, 3, at}, {softly, 5, at}, {hardly, 5, at}, {other, 0, at}} {
				do(t, s, p, y)
				check(t, s, p, 5)
			}
			for _, tag := range noTags() {
				checkNoTag(t, s, tag, at)
			}
			if n, e := s.Hard(5, at); n != 0 || e != api.ErrFull {
				t.Fatalf("Hard(5, %d) = %d, %d", at, n, e)
			}
		}
		check(t, s.Copy(), p)
		run(t, s, p, step{forget, 5, 0}, step{advance, 0, 15})
		check(t, s, p)
		run(t, s, p, step{forget, 3, 0}, step{forget, 3, 0}, step{advance, 0, 50}, step{other, 0, 60})
		check(t, s, p)
	}
}

// P16.2: what is forgotten is not known any more, and may come again; other tags and the stamps stay.
func TestForget(t *testing.T) {
	for _, l := range [][]step{
		{{hardly, 3, 5}},
		{{softly, 3, 5}},
		{{softly, 3, 5}, {softly, 3, 6}, {softly, 3, 14}},
		{{hardly, 3, 5}, {softly, 3, 6}},
		{{softly, 3, 5}, {softly, 3, 6}, {advance, 0, 15}},
		{{softly, 3, 5}, {softly, 3, 6}, {advance, 0, 50}},
		{{softly, 3, 5}, {softly, 3, never}},
	} {
		s, p := open(t, 10)
		run(t, s, p, step{hardly, 2, 4}, step{softly, 4, 4}, step{forget, 3, 0})
		check(t, s, p, 3)
		run(t, s, p, l...)
		check(t, s, p, 3)
		run(t, s, p, step{forget, 3, 0})
		check(t, s, p, 3)
		run(t, s, p, step{forget, 3, 0})
		check(t, s, p, 3)
		run(t, s, p, step{softly, 3, 16})
		check(t, s, p, 3)
		run(t, s, p, step{forget, 4, 0}, step{forget, 2, 0}, step{forget, 4, 0}, step{hardly, 4, 17})
		check(t, s, p, 2, 3)
	}
}

// P16.3: First finds the first soft purge after each stamp, of each number of soft purges; those that are over are none.
func TestFirst(t *testing.T) {
	for size := range 20 {
		s, p := open(t, 100)
		do(t, s, p, step{hardly, 9, 0})
		for i := range size {
			run(t, s, p, step{softly, 9, api.Time(3 * i)}, step{softly, 8, api.Time(3 * i)}, step{other, 0, 0})
		}
		for _, now := range []api.Time{0, 99, 100, 101, 103, 120, 150, 156, 157, 158} {
			do(t, s, p, step{advance, 0, now})
			for since := range uint64(3*size + 3) {
				at, is, e := s.First(9, since)
				if a, i, f := p.first(9, since); at != a || is != i || e != f {
					t.Fatalf("%s: First(9, %d) = %d, %t, %d", p.text(), since, at, is, e)
				}
			}
			check(t, s, p, 7, 8, 9)
		}
	}
}

// P16.1 to P16.4: all ways of a few steps. Nothing is asked before the end of each way, and each beginning of a way is one, too.
func TestAfterDefinition(t *testing.T) {
	var all []step
	for _, at := range []api.Time{0, 1, 2, 4} {
		all = append(all, step{hardly, 0, at}, step{softly, 0, at}, step{softly, 1, at}, step{other, 0, at}, step{advance, 0, at})
	}
	all = append(all, step{forget, 0, 0}, step{forget, 1, 0})
	for _, grace := range []api.Time{0, 1, 2, 3} {
		for n := range 4 {
			eachWay(all, n, func(way []step) {
				s, p := open(t, grace)
				run(t, s, p, way...)
				check(t, s, p, 0, 1)
			})
		}
	}
}

// P16.1 to P16.4: all ways of more steps, each of which goes on from the time before.
func TestAfterDefinitionStepByStep(t *testing.T) {
	steps := []step{{softly, 0, 0}, {softly, 0, 1}, {softly, 0, 2}, {softly, 1, 1}, {hardly, 0, 0}, {advance, 0, 1}, {advance, 0, 3}, {forget, 0, 0}}
	for _, grace := range []api.Time{0, 1, 2, 4} {
		for n := range 6 {
			eachWay(steps, n, func(way []step) {
				s, p := open(t, grace)
				for _, x := range way {
					x.at += p.now
					do(t, s, p, x)
				}
				check(t, s, p, 0, 1)
			})
		}
	}
}

// someStep returns one of the steps that go on from a time, which may be before it.
func someStep(number func(int) int, tags int, now api.Time, far int) step {
	x := step{kind(number(int(kinds))), number(tags), now + api.Time(number(far))}
	if number(4) > 0 && x.kind == hardly { // so that there are many soft purges
		x.kind = softly
	}
	if number(3) > 0 && x.kind == forget {
		x.kind = softly
	}
	if number(6) == 0 {
		x.at = now - min(now, api.Time(number(far)))
	}
	return x
}

// P16.1 to P16.5: long runs with different graces, tags and times, with copies and restored stamps in between.
func TestLongRuns(t *testing.T) {
	for seed := range uint64(60) {
		number := numbers(seed)
		grace := []api.Time{0, 1, 3, 10, 50, 1000, maxGrace}[seed%7]
		tags, far := 1+int(seed%5)*3, []int{1, 2, 5, 40, 1 << 20}[seed/7%5]
		s, p := open(t, grace)
		if seed%3 == 0 {
			do(t, s, p, step{advance, 0, never - api.Time(400*far)})
		}
		for i := range 600 {
			do(t, s, p, someStep(number, tags, p.now, far))
			switch number(40) {
			case 0:
				s = s.Copy()
			case 1:
				s, p = restore(t, s.Grace(), s.Now(), s.Last(), s.List()...)
			}
			if i%7 == 0 || i > 590 {
				check(t, s, p, number(tags), tags)
			}
		}
	}
}

// P16.4: lists are in increasing order, whatever the order is in which the tags were purged.
func TestOrder(t *testing.T) {
	tags := []int{0, 1, 2, 9, 10, 255, 256, 1000, 32767, 32768, lastTag - 1, lastTag}
	for turn := range 30 {
		number := numbers(uint64(turn))
		s, p := open(t, 10)
		for i := range tags {
			j := i + number(len(tags)-i)
			tags[i], tags[j] = tags[j], tags[i]
			run(t, s, p, step{kind(number(2)), tags[i], api.Time(i)})
			if l := s.Tags(); !slices.IsSorted(l) || len(l) != i+1 {
				t.Fatalf("Tags = %v", l)
			}
		}
		check(t, s, p)
	}
}

// P16.5: stamps are restored in states at both ends of all numbers.
func TestRestore(t *testing.T) {
	for _, c := range []struct {
		grace, now api.Time
		last       uint64
		l          []api.Stamped
	}{
		{0, 0, 0, nil},
		{0, 0, 0, []api.Stamped{}},
		{maxGrace, never, math.MaxUint64, nil},
		{7, 3, 5, nil},
		{0, 0, 1, []api.Stamped{known(0, 1)}},
		{0, 9, 1, []api.Stamped{known(lastTag, 1, []api.Soft{}...)}},
		{0, never, math.MaxUint64, []api.Stamped{known(lastTag, math.MaxUint64)}},
		{0, never, 1, []api.Stamped{known(7, 0, soft(1, never))}},
		{0, never, 2, []api.Stamped{known(7, 1, soft(2, never))}},
		{1, 0, 1, []api.Stamped{known(7, 0, soft(1, 0))}},
		{1, never, 3, []api.Stamped{known(7, 1, soft(2, never-1), soft(3, never))}},
		{10, 14, 9, []api.Stamped{known(2, 3, soft(5, 5), soft(8, 14)), known(3, 4), known(4, 0, soft(2, 13))}},
		{10, 14, 9, []api.Stamped{known(2, 7), known(3, 6), known(4, 2, soft(3, 7), soft(9, 8)), known(5, 4, soft(5, 8))}},
		{maxGrace, maxGrace - 1, math.MaxUint64, []api.Stamped{known(0, 0, soft(1, 0), soft(2, 1), soft(math.MaxUint64, maxGrace-1)), known(lastTag, math.MaxUint64-1)}},
		{maxGrace, never, 6, []api.Stamped{known(0, 0, soft(1, never-maxGrace), soft(2, never-1), soft(3, never)), known(1, 6)}},
	} {
		s, p := restore(t, c.grace, c.now, c.last, c.l...)
		check(t, s, p, 0, 1, lastTag)
		run(t, s, p, step{advance, 0, c.now + 1}, step{softly, 0, c.now + 2}, step{forget, 2, 0}, step{softly, 1, 0}, step{hardly, 7, 0})
		check(t, s, p, 0, 1, 2, lastTag)
	}
}

// goodList returns a list that is right for the grace 10, the time 20 and the last stamp 12.
func goodList() []api.Stamped {
	return []api.Stamped{known(2, 3, soft(5, 11), soft(8, 12), soft(9, 20)), known(7, 4), known(10, 0, soft(1, 14), soft(7, 20)), known(11, 2, soft(6, 15))}
}

// P16.5: with each single thing that is not right there is ErrArg.
func TestRestoreFails(t *testing.T) {
	restore(t, 10, 20, 12, goodList()...)
	for i, change := range []func(l []api.Stamped){
		func(l []api.Stamped) { l[0].Tag = -1 },
		func(l []api.Stamped) { l[0].Tag = math.MinInt },
		func(l []api.Stamped) { l[0].Tag = 7 },
		func(l []api.Stamped) { l[0].Tag = 8 },
		func(l []api.Stamped) { l[1].Tag = 2 },
		func(l []api.Stamped) { l[1].Tag = 1 },
		func(l []api.Stamped) { l[1].Tag = 10 },
		func(l []api.Stamped) { l[3].Tag = 10 },
		func(l []api.Stamped) { l[3].Tag = 9 },
		func(l []api.Stamped) { l[3].Tag = lastTag + 1 },
		func(l []api.Stamped) { l[3].Tag = 1<<32 + 11 },
		func(l []api.Stamped) { l[3].Tag = math.MaxInt },
		func(l []api.Stamped) { l[0], l[1] = l[1], l[0] },
		func(l []api.Stamped) { l[3] = l[2] },
		func(l []api.Stamped) { l[1].Hard = 0 },
		func(l []api.Stamped) { l[1] = known(7, 0, []api.Soft{}...) },
		func(l []api.Stamped) { l[2].Soft = nil },
		func(l []api.Stamped) { l[1].Hard = 13 },
		func(l []api.Stamped) { l[1].Hard = math.MaxUint64 },
		func(l []api.Stamped) { l[0].Soft[2].Stamp = 13 },
		func(l []api.Stamped) { l[0].Soft[2].Stamp = math.MaxUint64 },
		func(l []api.Stamped) { l[2].Soft[0].Stamp = 0 },
		func(l []api.Stamped) { l[1].Hard = 3 },           // the hard purge of another tag
		func(l []api.Stamped) { l[1].Hard = 5 },           // a soft purge of another tag before it
		func(l []api.Stamped) { l[1].Hard = 7 },           // a soft purge of another tag after it
		func(l []api.Stamped) { l[2].Soft[1].Stamp = 8 },  // a soft purge of another tag
		func(l []api.Stamped) { l[2].Soft[1].Stamp = 3 },  // the hard purge of another tag
		func(l []api.Stamped) { l[0].Hard = 5 },           // its own first soft purge
		func(l []api.Stamped) { l[0].Hard = 10 },          // after its soft purges
		func(l []api.Stamped) { l[0].Hard = 6 },           // between its soft purges
		func(l []api.Stamped) { l[3].Hard = 10 },          // after its only soft purge
		func(l []api.Stamped) { l[0].Soft[1].Stamp = 5 },  // stamps that do not rise
		func(l []api.Stamped) { l[0].Soft[1].Stamp = 10 }, // nor here
		func(l []api.Stamped) { l[0].Soft[0].Stamp = 10 }, // nor here
		func(l []api.Stamped) { l[0].Soft[2].Stamp = 7 },  // nor here
		func(l []api.Stamped) { l[0].Soft[0].At = 10 },    // over
		func(l []api.Stamped) { l[0].Soft[0].At = 0 },     // over long ago
		func(l []api.Stamped) { l[3].Soft[0].At = 10 },    // over
		func(l []api.Stamped) { l[0].Soft[0].At = 12 },    // times that do not rise
		func(l []api.Stamped) { l[0].Soft[0].At = 13 },    // nor here
		func(l []api.Stamped) { l[0].Soft[1].At = 20 },    // nor here
		func(l []api.Stamped) { l[2].Soft[0].At = 20 },    // nor here
		func(l []api.Stamped) { l[0].Soft[2].At = 12 },    // nor here
		func(l []api.Stamped) { l[0].Soft[2].At = 21 },    // after the time
		func(l []api.Stamped) { l[2].Soft[1].At = never }, // after the time
		func(l []api.Stamped) { l[3].Soft[0].At = 21 },    // after the time
		func(l []api.Stamped) { l[3].Soft = l[2].Soft },   // soft purges of another tag
	} {
		l := goodList()
		change(l)
		before := fmt.Sprint(l)
		if s, e := stamp.Restore(10, 20, 12, l); s != nil || e != api.ErrArg {
			t.Errorf("%d: Restore(%v) = %v, %d", i, l, s, e)
		}
		if fmt.Sprint(l) != before {
			t.Errorf("%d: %s is %v now", i, before, l)
		}
	}
}

// P16.5: a list is right for some graces, times and last stamps alone.
func TestRestoreFor(t *testing.T) {
	for _, c := range []struct {
		grace, now api.Time
		last       uint64
		want       api.Errno
	}{
		{10, 20, 12, api.OK},
		{10, 20, 9, api.OK},
		{10, 20, 8, api.ErrArg},
		{10, 20, 0, api.ErrArg},
		{10, 20, math.MaxUint64, api.OK},
		{10, 19, 12, api.ErrArg},
		{10, 0, 12, api.ErrArg},
		{10, 21, 12, api.ErrArg},
		{10, never, 12, api.ErrArg},
		{11, 21, 12, api.OK},
		{9, 20, 12, api.ErrArg},
		{0, 20, 12, api.ErrArg},
		{11, 22, 12, api.ErrArg},
		{maxGrace, maxGrace + 10, 12, api.OK},
		{maxGrace, maxGrace + 11, 12, api.ErrArg},
		{maxGrace + 1, 20, 12, api.ErrArg},
		{never, 20, 12, api.ErrArg},
	} {
		s, e := stamp.Restore(c.grace, c.now, c.last, goodList())
		if e != c.want || (s == nil) != (e != api.OK) {
			t.Errorf("Restore for %v = %v, %d", c, s, e)
		}
	}
	for _, grace := range []api.Time{maxGrace + 1, 1 << 41, 1 << 63, never} {
		for _, now := range someTimes() {
			if s, e := stamp.Restore(grace, now, 5, nil); s != nil || e != api.ErrArg {
				t.Errorf("Restore(%d, %d, 5, nil) = %v, %d", grace, now, s, e)
			}
		}
	}
}

// isRight reports after the definition whether a list is right.
func isRight(grace, now api.Time, last uint64, l []api.Stamped) bool {
	times := map[uint64]int{}
	for i, x := range l {
		if i > 0 && l[i-1].Tag >= x.Tag || !isTag(x.Tag) || x.Hard == 0 && len(x.Soft) == 0 || x.Hard > last {
			return false
		}
		if x.Hard != 0 {
			times[x.Hard]++
		}
		for j, p := range x.Soft {
			if p.Stamp < 1 || p.Stamp > last || p.Stamp <= x.Hard || p.At > now || isOver(p, grace, now) {
				return false
			}
			if j > 0 && (x.Soft[j-1].Stamp >= p.Stamp || x.Soft[j-1].At >= p.At) {
				return false
			}
			times[p.Stamp]++
		}
	}
	for _, n := range times {
		if n > 1 {
			return false
		}
	}
	return true
}

// checkRestore compares Restore with the definition for a list and different graces, times and last stamps, and returns how often it was right.
func checkRestore(t *testing.T, l []api.Stamped) int {
	t.Helper()
	right := 0
	for _, now := range []api.Time{0, 1, 2, 3} {
		for _, grace := range []api.Time{0, 1, 2} {
			for _, last := range []uint64{0, 2, 3} {
				s, e := stamp.Restore(grace, now, last, l)
				if !isRight(grace, now, last, l) {
					if s != nil || e != api.ErrArg {
						t.Fatalf("Restore(%d, %d, %d, %v) = %v, %d", grace, now, last, l, s, e)
					}
					continue
				}
				right++
				if s == nil || e != api.OK || s.Grace() != grace || s.Now() != now || s.Last() != last || !slices.EqualFunc(s.List(), l, same) {
					t.Fatalf("Restore(%d, %d, %d, %v) = %v, %d", grace, now, last, l, s, e)
				}
			}
		}
	}
	return right
}

// someKnown returns much that might be known of one of some tags, with small stamps and times.
func someKnown(softs int, tags ...int) []api.Stamped {
	lists := [][]api.Soft{nil}
	for first := 0; softs > 0; softs-- {
		end := len(lists)
		for _, l := range lists[first:end] {
			for n := range uint64(4) {
				for at := range api.Time(3) {
					lists = append(lists, append(slices.Clone(l), soft(n, at)))
				}
			}
		}
		first = end
	}
	var all []api.Stamped
	for _, tag := range tags {
		for hard := range uint64(4) {
			for _, l := range lists {
				all = append(all, known(tag, hard, l...))
			}
		}
	}
	return all
}

// P16.5: lists of few tags with small numbers are right or not as the definition says.
func TestRestoreAfterDefinition(t *testing.T) {
	right := checkRestore(t, nil)
	for _, x := range someKnown(2, -1, 0, lastTag, lastTag+1) {
		right += checkRestore(t, []api.Stamped{x})
	}
	for _, x := range someKnown(3, 5) {
		right += checkRestore(t, []api.Stamped{x})
	}
	pairs := someKnown(1, 4, 5)
	for _, x := range pairs {
		for _, y := range pairs {
			right += checkRestore(t, []api.Stamped{x, y})
		}
	}
	if right < 500 {
		t.Errorf("only %d were right", right)
	}
}

// P16.5, P16.6: stamps that are restored from what others say of themselves, and copies, go on in the same way.
func TestGoesOn(t *testing.T) {
	for seed := range uint64(40) {
		number := numbers(1000 + seed)
		grace := []api.Time{0, 1, 5, 30, maxGrace}[seed%5]
		s, p := open(t, grace)
		if seed%4 == 0 {
			do(t, s, p, step{advance, 0, never - 150})
		}
		for range 60 {
			do(t, s, p, someStep(number, 4, p.now, 6))
			r, q := restore(t, s.Grace(), s.Now(), s.Last(), s.List()...)
			c, d := s.Copy(), p.clone()
			for range 8 {
				x := someStep(number, 4, q.now, 8)
				do(t, r, q, x)
				do(t, c, d, x)
				check(t, r, q, 0, 1, 2, 3)
				check(t, c, d, 0, 1, 2, 3)
			}
			check(t, s, p)
		}
	}
}

// P16.5: copies go on independently, and so do the stamps from which they were made.
func TestCopy(t *testing.T) {
	s, p := open(t, 10)
	run(t, s, p, step{softly, 3, 1}, step{softly, 3, 2}, step{softly, 3, 3}, step{hardly, 4, 3}, step{softly, 5, 3}, step{softly, 6, 3}, step{softly, 6, 3})
	for _, x := range []step{{softly, 3, 3}, {softly, 3, 4}, {hardly, 3, 3}, {forget, 3, 0}, {advance, 0, 12}, {advance, 0, 50}, {other, 0, 12}, {softly, 7, 12}, {softly, 4, 9}, {forget, 4, 0}} {
		a, b := s.Copy(), p.clone()
		c, d := a.Copy(), b.clone()
		do(t, a, b, x)
		check(t, a, b, 3, 4, 5, 6, 7)
		check(t, s, p, 3, 4, 5, 6, 7)
		check(t, c, d, 3, 4, 5, 6, 7)
		e, f := a.Copy(), b.clone()
		run(t, c, d, step{softly, 3, 3}, step{softly, 3, 11}, step{softly, 6, 11}, step{forget, 5, 0})
		check(t, a, b, 3, 4, 5, 6, 7)
		check(t, s, p, 3, 4, 5, 6, 7)
		run(t, e, f, step{softly, 3, 12}, step{softly, 6, 3})
		check(t, a, b, 3, 4, 5, 6, 7)
		check(t, c, d, 3, 4, 5, 6, 7)
		check(t, e, f, 3, 4, 5, 6, 7)
	}
}

// P16.5: copies of copies, at which steps are made in turn.
func TestCopiesInTurn(t *testing.T) {
	for seed := range uint64(20) {
		number := numbers(seed)
		var all []*stamp.Stamps
		var plains []*plain
		s, p := open(t, api.Time(seed%4)*4)
		all, plains = append(all, s), append(plains, p)
		for range 300 {
			i := number(len(all))
			if len(all) < 6 || number(10) == 0 {
				if len(all) == 6 {
					j := number(6)
					all, plains = slices.Delete(all, j, j+1), slices.Delete(plains, j, j+1)
					i = number(5)
				}
				all, plains = append(all, all[i].Copy()), append(plains, plains[i].clone())
			}
			do(t, all[i], plains[i], someStep(number, 3, plains[i].now, 5))
			for j := range all {
				check(t, all[j], plains[j], 0, 1, 2)
			}
		}
	}
}

// spoil overwrites everything in a list, up to its capacity.
func spoil(l []api.Stamped) {
	for _, x := range l {
		spoilSoft(x.Soft)
	}
	l = l[:cap(l)]
	for i := range l {
		l[i] = known(-9, 99, soft(77, 7))
	}
}

// spoilSoft overwrites all soft purges in a list, up to its capacity.
func spoilSoft(l []api.Soft) {
	l = l[:cap(l)]
	for i := range l {
		l[i] = soft(88, 8)
	}
}

// Rules: results and arguments share no memory with anything.
func TestSharesNoMemory(t *testing.T) {
	for _, now := range []api.Time{20, 21, 22, 29, 40} {
		l := goodList()
		for i := range l {
			l[i].Soft = slices.Grow(l[i].Soft, 5)
		}
		s, p := restore(t, 10, 20, 12, goodList()...)
		r, e := stamp.Restore(10, 20, 12, l)
		if e != api.OK {
			t.Fatal(e)
		}
		spoil(l)
		check(t, r, p, 2, 7, 10, 11)
		do(t, s, p, step{advance, 0, now})
		r.Advance(now)
		for _, x := range []*stamp.Stamps{s, r, s.Copy(), r.Copy()} {
			for _, tag := range []int{1, 2, 7, 10, 11} {
				y, _ := x.Of(tag)
				spoilSoft(y.Soft)
				check(t, x, p, 1, 2, 7, 10, 11)
			}
			first, second := x.List(), x.List()
			spoil(first)
			if !slices.EqualFunc(second, p.list(), same) {
				t.Errorf("%s: List = %v", p.text(), second)
			}
			tags := x.Tags()
			tags = tags[:cap(tags)]
			for i := range tags {
				tags[i] = -5
			}
			check(t, x, p, 1, 2, 7, 10, 11)
		}
		of, _ := s.Of(2)
		before := fmt.Sprint(of)
		run(t, s, p, step{softly, 2, now}, step{softly, 2, now}, step{softly, 2, now + 1}, step{hardly, 2, now + 2})
		if fmt.Sprint(of) != before {
			t.Errorf("%s is %v now", before, of)
		}
	}
}

// Rules: the lists of one result share no memory with each other, also when something is appended to them.
func TestListsOfAResult(t *testing.T) {
	s, p := restore(t, 10, 20, 12, goodList()...)
	l := s.List()
	for i := range l {
		l[i].Soft = append(l[i].Soft, soft(55, 5))
		for j := range l[i].Soft {
			l[i].Soft[j].At = 1
		}
		for j := i + 1; j < len(l); j++ {
			if want, _ := p.of(l[j].Tag); !same(l[j], want) {
				t.Errorf("%v, want %v", l[j], want)
			}
		}
	}
	check(t, s, p)
}

// P16.1 to P16.5: nil and zero Stamps have ErrNil, whatever the arguments are, and nothing else.
func TestNilAndZero(t *testing.T) {
	var zero stamp.Stamps
	for _, s := range []*stamp.Stamps{nil, {}, &zero} {
		for _, tag := range append(noTags(), 0, 1, lastTag) {
			for _, at := range []api.Time{0, 5, never} {
				if n, e := s.Hard(tag, at); n != 0 || e != api.ErrNil {
					t.Errorf("Hard = %d, %d", n, e)
				}
				if n, e := s.Soft(tag, at); n != 0 || e != api.ErrNil {
					t.Errorf("Soft = %d, %d", n, e)
				}
				if n, e := s.Other(at); n != 0 || e != api.ErrNil {
					t.Errorf("Other = %d, %d", n, e)
				}
				if e := s.Advance(at); e != api.ErrNil {
					t.Errorf("Advance = %d", e)
				}
				if got, is, e := s.First(tag, uint64(at)); got != 0 || is || e != api.ErrNil {
					t.Errorf("First = %d, %t, %d", got, is, e)
				}
			}
			if e := s.Forget(tag); e != api.ErrNil {
				t.Errorf("Forget = %d", e)
			}
			if x, e := s.Of(tag); x.Tag != 0 || x.Hard != 0 || len(x.Soft) != 0 || e != api.ErrNil {
				t.Errorf("Of = %v, %d", x, e)
			}
		}
		if len(s.Tags()) != 0 || len(s.List()) != 0 || s.Last() != 0 || s.Now() != 0 || s.Grace() != 0 || s.Copy() != nil {
			t.Errorf("%v, %v, %d, %d, %d, %v", s.Tags(), s.List(), s.Last(), s.Now(), s.Grace(), s.Copy())
		}
	}
	if !reflect.ValueOf(zero).IsZero() {
		t.Errorf("%v is not zero any more", zero)
	}
}

// P16.6: stamps rise by 1 with each purge, whatever is purged, and by nothing else.
func TestStampsRise(t *testing.T) {
	for seed := range uint64(10) {
		number := numbers(seed)
		s, p := open(t, api.Time(seed))
		for range 500 {
			x := someStep(number, 5, p.now, 4)
			before := s.Last()
			do(t, s, p, x)
			want := before
			if x.kind <= other {
				want++
			}
			if s.Last() != want {
				t.Fatalf("Last = %d after %d and %v", s.Last(), before, x)
			}
		}
	}
}

// P16.6: what is known of a tag is the same if all other purges are purges of something else.
func TestOtherTagsDoNotMatter(t *testing.T) {
	for seed := range uint64(30) {
		number := numbers(seed)
		grace := api.Time(seed % 8 * 2)
		s, p := open(t, grace)
		r, q := open(t, grace)
		for range 300 {
			x := someStep(number, 4, p.now, 5)
			do(t, s, p, x)
			switch {
			case x.tag == 2 || x.kind == other || x.kind == advance:
				do(t, r, q, x)
			case x.kind != forget:
				do(t, r, q, step{other, 0, x.at})
			}
			a, _ := s.Of(2)
			b, _ := r.Of(2)
			if !same(a, b) || s.Now() != r.Now() || s.Last() != r.Last() {
				t.Fatalf("%v and %v", a, b)
			}
		}
	}
}

// P16.6: all soft purges that are known are younger than grace, and their stamps and times rise; what is known is right for Restore.
func TestYoungerThanGrace(t *testing.T) {
	for seed := range uint64(30) {
		number := numbers(seed)
		grace := api.Time(seed % 6 * 3)
		s, p := open(t, grace)
		for range 300 {
			do(t, s, p, someStep(number, 3, p.now, 5))
			for _, x := range s.List() {
				for _, y := range x.Soft {
					if s.Now()-y.At >= grace {
						t.Fatalf("%v is known at %d", x, s.Now())
					}
				}
			}
			if !isRight(grace, s.Now(), s.Last(), s.List()) {
				t.Fatalf("%v is not right", s.List())
			}
		}
	}
}

// P16.3, P16.6: whatever a soft purge makes stale is purged by it when it is over: what was written before it, and nothing else.
func TestWhatWasWrittenBefore(t *testing.T) {
	s, p := open(t, 10)
	run(t, s, p, step{softly, 3, 5}, step{other, 0, 5}, step{softly, 3, 8}, step{other, 0, 8})
	for _, now := range []api.Time{8, 14, 15, 17, 18, 30} {
		do(t, s, p, step{advance, 0, now})
		x, _ := s.Of(3)
		for since := range uint64(5) {
			soft := never // the first soft purge after since
			for i, at := range []api.Time{5, 8} {
				if since < uint64(2*i+1) {
					soft = min(soft, at)
				}
			}
			at, is, _ := s.First(3, since)
			dead := soft != never && soft+10 <= now
			if (x.Hard > since) != dead {
				t.Errorf("at %d: %v since %d", now, x, since)
			}
			if !dead && is != (soft != never) || !dead && is && at != soft {
				t.Errorf("at %d: First(3, %d) = %d, %t, want %d", now, since, at, is, soft)
			}
		}
	}
}

// P16.1 to P16.5: as many tags as there may be.
func TestMany(t *testing.T) {
	s, p := open(t, 1<<17)
	for i := range stamp.MaxTags {
		tag := i * 40503 % stamp.MaxTags // each of them once
		purgeTwice(t, s, tag, api.Time(i), uint64(2*i+1))
		if tag%3 == 0 {
			p.hard[tag] = uint64(2*i + 2)
		} else {
			p.soft[tag] = []api.Soft{soft(uint64(2*i+2), api.Time(i))}
		}
	}
	p.now, p.last = lastTag, 2*stamp.MaxTags
	check(t, s, p)
	r, q := restore(t, s.Grace(), s.Now(), s.Last(), s.List()...)
	c := s.Copy()
	run(t, r, q, step{advance, 0, 1<<17 + 1<<15})
	check(t, r, q)
	check(t, c, p)
	for tag := range stamp.MaxTags {
		if e := s.Forget(tag); e != api.OK {
			t.Fatalf("Forget(%d) = %d", tag, e)
		}
	}
	if len(s.Tags()) != 0 || len(s.List()) != 0 {
		t.Errorf("%d tags are left", len(s.Tags()))
	}
	check(t, c, p)
}

// purgeTwice purges a tag twice at a time: softly, and then hard, if its number is a multiple of 3, or softly again.
func purgeTwice(t *testing.T, s *stamp.Stamps, tag int, at api.Time, want uint64) {
	t.Helper()
	n, e := s.Soft(tag, at)
	checkStamp(t, n, e, want)
	if tag%3 == 0 {
		n, e = s.Hard(tag, at)
	} else {
		n, e = s.Soft(tag, at)
	}
	checkStamp(t, n, e, want+1)
}

// P16.1, P16.3: very many soft purges of one tag; each of them is found.
func TestManySoftPurges(t *testing.T) {
	const n, grace = 1 << 18, 1 << 17
	s, _ := open(t, grace)
	for i := range api.Time(n) {
		got, e := s.Soft(5, i)
		checkStamp(t, got, e, uint64(i)+1)
		from := max(i, grace-1) - (grace - 1) // the first one that is not over
		checkFirst(t, s, 5, 0, from, true)
		checkFirst(t, s, 5, uint64(from+(i-from)/2), from+(i-from)/2, true)
		checkFirst(t, s, 5, uint64(i), i, true)
		checkFirst(t, s, 5, uint64(i)+1, 0, false)
	}
	x, _ := s.Of(5)
	if x.Hard != n-grace+1-1 || len(x.Soft) != grace || x.Soft[0] != soft(n-grace+1, n-grace) {
		t.Errorf("hard %d, and %d soft purges", x.Hard, len(x.Soft))
	}
	s.Advance(n - 1 + grace - 1)
	checkOf(t, s, known(5, n-1, soft(n, n-1)))
	s.Advance(n - 1 + grace)
	checkOf(t, s, known(5, n))
}

// held returns how many bytes are held.
func held() int {
	runtime.GC()
	runtime.GC()
	var m runtime.MemStats
	runtime.ReadMemStats(&m)
	return int(m.HeapAlloc)
}

// Rules: of soft purges that are over nothing is kept when their tag is purged again or copied, nor of what is forgotten.
func TestOverIsNotKept(t *testing.T) {
	const n = 1 << 20
	for i, by := range []func(s *stamp.Stamps) *stamp.Stamps{
		func(s *stamp.Stamps) *stamp.Stamps { s.Soft(5, 3*n); return s },
		func(s *stamp.Stamps) *stamp.Stamps { s.Hard(5, 0); return s },
		func(s *stamp.Stamps) *stamp.Stamps { s.Forget(5); return s },
		func(s *stamp.Stamps) *stamp.Stamps { s.Advance(3 * n); return s.Copy() },
		func(s *stamp.Stamps) *stamp.Stamps { s.Advance(2*n - 1); return s.Copy() },
	} {
		before := held()
		s, _ := open(t, n)
		for j := range api.Time(n) {
			s.Soft(5, j)
		}
		if full := held(); full < before+8*n {
			t.Fatalf("%d: only %d bytes are held", i, full-before)
		}
		s = by(s)
		if after := held(); after > before+n {
			t.Errorf("%d: %d bytes more are held", i, after-before)
		}
		runtime.KeepAlive(s)
	}
}

// Rules: stamps stay small, however many soft purges there were one after the other, and results hold no memory of stamps.
func TestStaysSmall(t *testing.T) {
	before := held()
	s, _ := open(t, 100)
	for i := range api.Time(1 << 20) {
		s.Soft(5, i)
	}
	if after := held(); after > before+1<<18 {
		t.Errorf("%d bytes more are held", after-before)
	}
	runtime.KeepAlive(s)
	r, _ := open(t, 1<<20)
	for i := range api.Time(1 << 20) {
		r.Soft(5, i)
	}
	r.Advance(1 << 22)
	x, _ := r.Of(5)
	l := r.List()
	r = nil
	if after := held(); after > before+1<<18 {
		t.Errorf("%d bytes more are held by results", after-before)
	}
	runtime.KeepAlive(x)
	runtime.KeepAlive(l)
}

// Rules: of an argument nothing is kept, not even what an empty list is a part of.
func TestArgumentsAreNotKept(t *testing.T) {
	before := held()
	var all []*stamp.Stamps
	for i := range 10 {
		big := make([]api.Soft, 1<<16)
		big[0], big[1] = soft(2, 1), soft(3, 2)
		l := make([]api.Stamped, 1<<14)
		l[0], l[1] = known(3, 1, big[:2]...), known(5, 4, big[i:i]...)
		s, e := stamp.Restore(10, 5, 9, l[:2])
		if e != api.OK {
			t.Fatal(e)
		}
		all = append(all, s)
	}
	if after := held(); after > before+1<<20 {
		t.Errorf("%d bytes more are held", after-before)
	}
	runtime.KeepAlive(all)
}

// P1, Rules: equal calls on stamps in equal states have equal results, and what only asks changes nothing.
func TestAgain(t *testing.T) {
	s, p := open(t, 10)
	run(t, s, p, step{softly, 3, 1}, step{softly, 3, 5}, step{hardly, 4, 6}, step{softly, 3, 12}, step{advance, 0, 14})
	for range 5 {
		check(t, s, p, 0, 3, 4)
		do(t, s, p, step{advance, 0, 14})
		do(t, s, p, step{forget, 0, 0})
	}
	c := s.Copy()
	for i := range 5 {
		at := api.Time(12 + i)
		n, e := s.Soft(3, at)
		m, f := c.Soft(3, at)
		if n != m || e != f || !reflect.DeepEqual(s.List(), c.List()) {
			t.Errorf("Soft = %d, %d and %d, %d", n, e, m, f)
		}
	}
}
