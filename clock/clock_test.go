package clock_test

import (
	"math"
	"math/big"
	"strconv"
	"strings"
	"testing"

	"tagcache/api"
	"tagcache/clock"
)

const never = api.Never

// someTimes returns times at both ends and between them, in increasing order.
func someTimes() []api.Time {
	return []api.Time{0, 1, 2, 3, 4, 7, 10, 1 << 32, 1<<63 - 1, 1 << 63, 1<<63 + 1, never - 4, never - 3, never - 2, never - 1, never}
}

// wantAdd returns a time plus ticks after the definition, with a sum that cannot go beyond a word.
func wantAdd(t, ticks api.Time) api.Time {
	end := new(big.Int).SetUint64(math.MaxUint64)
	sum := new(big.Int).Add(new(big.Int).SetUint64(uint64(t)), new(big.Int).SetUint64(uint64(ticks)))
	if t == never || ticks == never || sum.Cmp(end) >= 0 {
		return never
	}
	return api.Time(sum.Uint64())
}

// wantMark returns the mark after the definition, condition by condition.
func wantMark(now, deadline, soft, grace api.Time) api.Mark {
	end := wantAdd(soft, grace)
	switch {
	case deadline != never && deadline <= now:
		return api.Dead
	case soft <= now && end != never && end <= now:
		return api.Dead
	case soft != never && soft <= now:
		return api.Stale
	}
	return api.Fresh
}

// P3.1: the examples of the chapter, and sums around Never and beyond a word.
func TestAdd(t *testing.T) {
	for _, c := range []struct{ at, ticks, want api.Time }{
		{0, 0, 0},
		{5, 0, 5},
		{0, 5, 5},
		{5, 7, 12},
		{never, 0, never},
		{never, 1, never},
		{0, never, never},
		{5, never, never},
		{never, never, never},
		{never - 1, 0, never - 1},
		{0, never - 1, never - 1},
		{never - 2, 1, never - 1},
		{never - 2, 2, never},
		{never - 2, 3, never},
		{never - 1, 1, never},
		{1, never - 1, never},
		{never - 1, never - 1, never},
		{1 << 63, 1<<63 - 2, never - 1},
		{1 << 63, 1<<63 - 1, never},
		{1 << 63, 1 << 63, never},
		{1 << 40, 1 << 40, 1 << 41},
	} {
		if got := clock.Add(c.at, c.ticks); got != c.want {
			t.Errorf("Add(%d, %d) = %d, want %d", c.at, c.ticks, got, c.want)
		}
	}
}

// P3.1: sums of all pairs, which are the same the other way round.
func TestAddAfterDefinition(t *testing.T) {
	for _, a := range someTimes() {
		for _, b := range someTimes() {
			want := wantAdd(a, b)
			if got := clock.Add(a, b); got != want {
				t.Errorf("Add(%d, %d) = %d, want %d", a, b, got, want)
			}
			if got := clock.Add(b, a); got != want {
				t.Errorf("Add(%d, %d) = %d, want %d", b, a, got, want)
			}
		}
	}
}

// P3.1: the later one of two times, also if one of them is Never.
func TestEffective(t *testing.T) {
	for _, c := range []struct{ before, given, want api.Time }{
		{0, 0, 0},
		{9, 4, 9},
		{4, 9, 9},
		{9, 9, 9},
		{0, never, never},
		{never, 0, never},
		{never, never, never},
		{never - 1, never, never},
		{1<<63 - 1, 1 << 63, 1 << 63},
		{1 << 63, 1<<63 - 1, 1 << 63},
	} {
		if got := clock.Effective(c.before, c.given); got != c.want {
			t.Errorf("Effective(%d, %d) = %d, want %d", c.before, c.given, got, c.want)
		}
	}
}

// P3.1: a deadline comes at its time; Never does not come, not even at the time Never.
func TestDue(t *testing.T) {
	for _, c := range []struct {
		deadline, now api.Time
		want          bool
	}{
		{0, 0, true},
		{0, 1, true},
		{1, 0, false},
		{5, 5, true},
		{5, 6, true},
		{6, 5, false},
		{5, never, true},
		{never, 5, false},
		{never, never - 1, false},
		{never, never, false},
		{never - 1, never - 2, false},
		{never - 1, never - 1, true},
		{never - 1, never, true},
		{1 << 63, 1<<63 - 1, false},
		{1<<63 - 1, 1 << 63, true},
	} {
		if got := clock.Due(c.deadline, c.now); got != c.want {
			t.Errorf("Due(%d, %d) = %v", c.deadline, c.now, got)
		}
	}
}

var marked = []struct {
	now, deadline, soft, grace api.Time
	mark                       api.Mark
	next                       api.Time
}{
	// without a soft purge, the grace does not matter
	{0, never, never, 0, api.Fresh, never},
	{50, never, never, never, api.Fresh, never},
	{9, 10, never, 3, api.Fresh, 10},
	{10, 10, never, 3, api.Dead, never},
	{11, 10, never, never, api.Dead, never},
	{0, 0, never, 3, api.Dead, never},

	// with a soft purge and some grace
	{6, 20, 7, 3, api.Fresh, 7},
	{7, 20, 7, 3, api.Stale, 10},
	{9, 20, 7, 3, api.Stale, 10},
	{10, 20, 7, 3, api.Dead, never},
	{11, 20, 7, 3, api.Dead, never},
	{20, 20, 7, 3, api.Dead, never},
	{0, never, 0, 1, api.Stale, 1},
	{1, never, 0, 1, api.Dead, never},

	// the deadline before the soft purge, with it, within the grace, and at its end
	{3, 5, 7, 3, api.Fresh, 5},
	{5, 5, 7, 3, api.Dead, never},
	{8, 5, 7, 3, api.Dead, never},
	{6, 7, 7, 3, api.Fresh, 7},
	{7, 7, 7, 3, api.Dead, never},
	{6, 8, 7, 3, api.Fresh, 7},
	{7, 8, 7, 3, api.Stale, 8},
	{8, 8, 7, 3, api.Dead, never},
	{9, 10, 7, 3, api.Stale, 10},
	{9, 11, 7, 3, api.Stale, 10},

	// no grace: never stale
	{6, 20, 7, 0, api.Fresh, 7},
	{7, 20, 7, 0, api.Dead, never},
	{0, 20, 0, 0, api.Dead, never},

	// grace for ever, or a grace whose end is Never: stale until the deadline
	{6, never, 7, never, api.Fresh, 7},
	{50, never, 7, never, api.Stale, never},
	{50, 60, 7, never, api.Stale, 60},
	{60, 60, 7, never, api.Dead, never},
	{never - 1, never, never - 3, 3, api.Stale, never},
	{never - 1, never, never - 3, 5, api.Stale, never},
	{never - 3, never, never - 3, 2, api.Stale, never - 1},
	{never - 1, never, never - 3, 2, api.Dead, never},
	{never - 2, never, never - 1, 0, api.Fresh, never - 1},
	{never - 1, never, never - 1, 1, api.Stale, never},

	// at the time Never, and a deadline just before it
	{never, never, never, 0, api.Fresh, never},
	{never, never, never, never, api.Fresh, never},
	{never, 5, never, 3, api.Dead, never},
	{never, never, 7, 5, api.Dead, never},
	{never, never, 7, never, api.Stale, never},
	{never, 5, 7, never, api.Dead, never},
	{never - 2, never - 1, never, 3, api.Fresh, never - 1},
	{never - 2, never - 1, 7, never, api.Stale, never - 1},
	{never - 1, never - 1, 7, never, api.Dead, never},
}

// P3.2: the examples of the chapter, and the order in which a deadline, a soft purge and the end of its grace come.
func TestMark(t *testing.T) {
	for _, c := range marked {
		if got := clock.Mark(c.now, c.deadline, c.soft, c.grace); got != c.mark {
			t.Errorf("Mark(%d, %d, %d, %d) = %d, want %d", c.now, c.deadline, c.soft, c.grace, got, c.mark)
		}
	}
}

// P3.3: the same times, also those after which nothing changes any more.
func TestNext(t *testing.T) {
	for _, c := range marked {
		if got := clock.Next(c.now, c.deadline, c.soft, c.grace); got != c.next {
			t.Errorf("Next(%d, %d, %d, %d) = %d, want %d", c.now, c.deadline, c.soft, c.grace, got, c.next)
		}
	}
}

// eachEntry calls a function with all deadlines, times of soft purges and graces of a list.
func eachEntry(l []api.Time, f func(deadline, soft, grace api.Time)) {
	for _, deadline := range l {
		for _, soft := range l {
			for _, grace := range l {
				f(deadline, soft, grace)
			}
		}
	}
}

// P3.2: the definition, for all times at both ends and between them.
func TestMarkAfterDefinition(t *testing.T) {
	eachEntry(someTimes(), func(deadline, soft, grace api.Time) {
		for _, now := range someTimes() {
			want := wantMark(now, deadline, soft, grace)
			if got := clock.Mark(now, deadline, soft, grace); got != want {
				t.Fatalf("Mark(%d, %d, %d, %d) = %d, want %d", now, deadline, soft, grace, got, want)
			}
		}
	})
}

// wantNext looks at each time after a time, as long as there are any, for another mark.
func wantNext(now, last, deadline, soft, grace api.Time) api.Time {
	mark := wantMark(now, deadline, soft, grace)
	for now < last {
		now++
		if wantMark(now, deadline, soft, grace) != mark {
			return now
		}
	}
	return never
}

// P3.3: tick by tick from 0 on, beyond the sum of the greatest of the small numbers, and then only just before Never.
func TestNextTickByTick(t *testing.T) {
	eachEntry([]api.Time{0, 1, 2, 3, 5, 8, never - 1, never}, func(deadline, soft, grace api.Time) {
		for now := range api.Time(18) {
			want := wantNext(now, 18, deadline, soft, grace)
			if want == never { // only those that are too far away to be looked for
				want = farNext(now, deadline, soft, grace)
			}
			if got := clock.Next(now, deadline, soft, grace); got != want {
				t.Fatalf("Next(%d, %d, %d, %d) = %d, want %d", now, deadline, soft, grace, got, want)
			}
		}
	})
}

// farNext looks for another mark at the last times before Never alone.
func farNext(now, deadline, soft, grace api.Time) api.Time {
	mark := wantMark(now, deadline, soft, grace)
	for at := never - 20; at < never; at++ {
		if wantMark(at, deadline, soft, grace) != mark {
			return at
		}
	}
	return never
}

// P3.3: tick by tick up to the last time before Never, which is not returned as a time of another mark.
func TestNextBeforeNever(t *testing.T) {
	l := []api.Time{0, 1, 2, 5, never - 9, never - 6, never - 3, never - 2, never - 1, never}
	eachEntry(l, func(deadline, soft, grace api.Time) {
		for now := never - 12; now != 0; now++ {
			want := wantNext(now, never-1, deadline, soft, grace)
			if got := clock.Next(now, deadline, soft, grace); got != want {
				t.Fatalf("Next(%d, %d, %d, %d) = %d, want %d", now, deadline, soft, grace, got, want)
			}
		}
	})
}

// P3.4: the examples of the chapter, and the greatest times.
func TestTextAndParse(t *testing.T) {
	for _, c := range []struct {
		at   api.Time
		text string
	}{
		{0, "0"},
		{7, "7"},
		{10, "10"},
		{120, "120"},
		{9007199254740993, "9007199254740993"},
		{1<<63 - 1, "9223372036854775807"},
		{1 << 63, "9223372036854775808"},
		{never - 1, "18446744073709551614"},
		{never, "never"},
	} {
		if got := clock.Text(c.at); got != c.text {
			t.Errorf("Text(%d) = %q, want %q", c.at, got, c.text)
		}
		if got, e := clock.Parse(c.text); got != c.at || e != api.OK {
			t.Errorf("Parse(%q) = %d, %d, want %d", c.text, got, e, c.at)
		}
	}
}

// P3.4: signs, leading zeros, other digits, other words, what is around a text, and numbers that are too great, with Never's own among them.
func TestParseOfNoTexts(t *testing.T) {
	for _, s := range []string{
		"", " ", "00", "01", "007", "0120", "-0", "-1", "+0", "+1",
		" 1", "1 ", "1\n", "\t1", "1\x00", "\x001", "1 2", "1,2", "1_0", "1.0", "1.", ".1", "1e3", "0x1", "0b1", "0o7", "1a", "a", "f", "\xff",
		"Never", "NEVER", "never ", " never", "nevers", "neve", "n", "nevernever", "never1", "1never", "inf", "nil",
		"١", "１", "²", "½",
		"18446744073709551615", "18446744073709551616", "18446744073709551617", "18446744073709551624", "28446744073709551614", "36893488147419103232",
		"018446744073709551614", "184467440737095516140", "340282366920938463463374607431768211455",
		strings.Repeat("0", 1<<20), strings.Repeat("0", 1<<20) + "1", strings.Repeat("9", 1<<20), strings.Repeat("never", 1<<18),
	} {
		if got, e := clock.Parse(s); got != 0 || e != api.ErrFormat {
			t.Errorf("Parse of %d bytes, %.40q = %d, %d, want 0 and ErrFormat", len(s), s, got, e)
		}
	}
}

// P3.4: the words of the marks, and the empty one for all that is no mark.
func TestWord(t *testing.T) {
	for _, c := range []struct {
		mark api.Mark
		want string
	}{
		{api.Dead, "dead"},
		{api.Fresh, "fresh"},
		{api.Stale, "stale"},
		{3, ""},
		{4, ""},
		{-1, ""},
		{256, ""},
		{1 << 32, ""},
		{1<<32 + 1, ""},
		{math.MaxInt, ""},
		{math.MinInt, ""},
	} {
		if got := clock.Word(c.mark); got != c.want {
			t.Errorf("Word(%d) = %q, want %q", c.mark, got, c.want)
		}
	}
}

// mayFollow reports whether a mark may come after another one.
func mayFollow(before, after api.Mark) bool {
	return before == after || before == api.Fresh || before == api.Stale && after == api.Dead
}

// P3.5: marks only change from Fresh to Stale or Dead, and from Stale to Dead, and all these changes are met.
func TestMarksOnlyGoOn(t *testing.T) {
	var met [3][3]bool
	eachEntry(someTimes(), func(deadline, soft, grace api.Time) {
		before := clock.Mark(0, deadline, soft, grace)
		for _, now := range someTimes() {
			after := clock.Mark(now, deadline, soft, grace)
			if !mayFollow(before, after) {
				t.Fatalf("deadline %d, soft %d, grace %d: at %d the mark changes from %d to %d", deadline, soft, grace, now, before, after)
			}
			met[before][after] = true
			before = after
		}
	})
	if !met[api.Fresh][api.Stale] || !met[api.Fresh][api.Dead] || !met[api.Stale][api.Dead] {
		t.Errorf("changes that were met: %v", met)
	}
}

// P3.5: between a time and Next the mark stays the same, and at Next, if that is not Never, it is another one.
func TestMarkStaysUntilNext(t *testing.T) {
	eachEntry(someTimes(), func(deadline, soft, grace api.Time) {
		for _, now := range someTimes() {
			mark, next := clock.Mark(now, deadline, soft, grace), clock.Next(now, deadline, soft, grace)
			if next != never && (next <= now || clock.Mark(next, deadline, soft, grace) == mark) {
				t.Fatalf("Next(%d, %d, %d, %d) = %d, where the mark is no other one", now, deadline, soft, grace, next)
			}
			for _, at := range append(someTimes(), next-1) {
				if at >= now && at < next && clock.Mark(at, deadline, soft, grace) != mark {
					t.Fatalf("Next(%d, %d, %d, %d) = %d, but the mark is another one at %d", now, deadline, soft, grace, next, at)
				}
			}
		}
	})
}

// P3.5: from change to change, an entry is Dead after two at most, and then nothing changes any more.
func TestNextLeadsToTheEnd(t *testing.T) {
	eachEntry(someTimes(), func(deadline, soft, grace api.Time) {
		var at api.Time
		for range 2 {
			if next := clock.Next(at, deadline, soft, grace); next != never {
				at = next
			}
		}
		if next := clock.Next(at, deadline, soft, grace); next != never {
			t.Fatalf("deadline %d, soft %d, grace %d: a third change at %d", deadline, soft, grace, next)
		}
		if clock.Mark(at, deadline, soft, grace) != clock.Mark(never, deadline, soft, grace) {
			t.Fatalf("deadline %d, soft %d, grace %d: another mark after the last change, at %d", deadline, soft, grace, at)
		}
	})
}

// P3.5: effective times never decrease, whatever is given, and none is before what is given.
func TestEffectiveTimesNeverDecrease(t *testing.T) {
	var at api.Time
	for _, given := range []api.Time{0, 5, 3, 5, 0, 1 << 32, 7, 1<<63 - 1, 1 << 63, 1, never - 1, 0, never, never - 1, 0} {
		next := clock.Effective(at, given)
		if next < at || next < given || next != at && next != given {
			t.Errorf("Effective(%d, %d) = %d", at, given, next)
		}
		at = next
	}
	if at != never {
		t.Errorf("the last effective time is %d", at)
	}
}

// P3.5: Parse inverts Text, for times of each length, and those around powers.
func TestParseOfText(t *testing.T) {
	l := someTimes()
	for i := range 64 {
		l = append(l, 1<<i-1, 1<<i, 1<<i+1)
	}
	for p := api.Time(1); p <= never/10; p *= 10 {
		l = append(l, p*10-1, p*10, p*10+1)
	}
	for _, at := range l {
		text := clock.Text(at)
		if got, e := clock.Parse(text); got != at || e != api.OK {
			t.Errorf("Parse(%q) = %d, %d, want %d", text, got, e, at)
		}
	}
}

// P3.4, P3.5: Text inverts Parse, wherever it accepts a text, and it accepts the numbers only that are written without a zero in front.
func TestTextOfParsed(t *testing.T) {
	signs := []string{"0", "1", "9", "-", "+", "_", " ", ".", "a", "e", "x", "never"}
	texts := []string{""}
	for range 5 {
		var longer []string
		for _, s := range texts {
			for _, c := range signs {
				longer = append(longer, s+c)
			}
		}
		texts = longer
		for _, text := range texts {
			at, e := clock.Parse(text)
			if e == api.OK && clock.Text(at) != text || e != api.OK && (at != 0 || e != api.ErrFormat) {
				t.Fatalf("Parse(%q) = %d, %d", text, at, e)
			}
			digits := strings.Trim(text, "019") == ""
			if want := text == "never" || text == "0" || digits && text[0] != '0'; (e == api.OK) != want {
				t.Fatalf("Parse(%q) = %d, %d", text, at, e)
			}
		}
	}
}

// P3.4: all small times.
func TestTextsOfSmallTimes(t *testing.T) {
	for i := range 12000 {
		want := strconv.Itoa(i)
		if got := clock.Text(api.Time(i)); got != want {
			t.Fatalf("Text(%d) = %q", i, got)
		}
		if got, e := clock.Parse(want); got != api.Time(i) || e != api.OK {
			t.Fatalf("Parse(%q) = %d, %d", want, got, e)
		}
	}
}

// P1: equal calls have equal results, whatever was called before.
func TestAgain(t *testing.T) {
	for range 100 {
		if clock.Mark(9, 20, 7, 3) != api.Stale || clock.Next(9, 20, 7, 3) != 10 || clock.Effective(4, 9) != 9 || clock.Text(7) != "7" {
			t.Fatal("a call has another result than before")
		}
		clock.Mark(10, 20, 7, 3)
		clock.Effective(never, never)
		clock.Parse("never")
	}
}
