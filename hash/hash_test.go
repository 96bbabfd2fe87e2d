package hash_test

import (
	"bytes"
	"math"
	"testing"

	"tagcache/api"
	"tagcache/hash"
)

// P1.1: words that were mixed by hand, after the definition.
func TestMixOfSomeWords(t *testing.T) {
	for _, c := range []struct{ word, want uint64 }{
		{0, 0},
		{1, 1082269761},
		{2, 2164539522},
		{1 << 51, 1<<51 ^ 1<<44 ^ 1<<61},
		{1 << 63, 9295429630892703744},
		{math.MaxUint64, 1065361344},
		{0x0123456789abcdef, 4550888344034083252},
	} {
		if got := hash.Mix(c.word); got != c.want {
			t.Errorf("Mix(%d) = %d, want %d", c.word, got, c.want)
		}
	}
}

// P1.1: where each single bit goes, found with lists of bits instead of shifts of words.
func TestMixOfEachBit(t *testing.T) {
	for i := range 64 {
		var set [64]bool
		set[i] = true
		set = xorMoved(set, 13)
		set = xorMoved(set, -7)
		set = xorMoved(set, 17)
		var want uint64
		for j, on := range set {
			if on {
				want += uint64(1) << j
			}
		}
		if got := hash.Mix(1 << i); got != want {
			t.Errorf("Mix(1 << %d) = %x, want %x", i, got, want)
		}
	}
}

// xorMoved returns the bits XOR the bits moved up by some places; what leaves the word is lost.
func xorMoved(set [64]bool, by int) [64]bool {
	out := set
	for i, on := range set {
		if j := i + by; on && j >= 0 && j < 64 {
			out[j] = !out[j]
		}
	}
	return out
}

// P1.1: mixing is made of shifts and XOR only, so it goes through XOR, whatever the words are.
func TestMixOfXor(t *testing.T) {
	a, b := uint64(1), uint64(math.MaxUint64)
	for range 1000 {
		a, b = a*6364136223846793005+1442695040888963407, b*2862933555777941757+3037000493
		if hash.Mix(a^b) != hash.Mix(a)^hash.Mix(b) {
			t.Fatalf("Mix(%d ^ %d) is not Mix of the one ^ Mix of the other", a, b)
		}
	}
}

var sums = []struct {
	seed uint64
	s    string
	want uint64
}{
	{0, "", 0},
	{1, "", 1082269761},
	{0, "a", 106061912290},
	{0, "ab", 3395066346521},
	{0, "ba", 3375685368711},
	{7, "user/1", 10496575943270744944},
	{0, "\x00", 1082269761},
	{0, "\x00\x00", 34632632352},
	{0, "é", 6689422492118},
	{9, "\xff\x80", 18084742648648},
	{math.MaxUint64, "\xff\xff", 7704702546887},
	{1 << 63, "tagcache", 11104789874778717257},
	{5, allBytes(), 14154694441051118884},
}

// allBytes returns a string of all 256 bytes, in order.
func allBytes() string {
	b := make([]byte, 256)
	for i := range b {
		b[i] = byte(i)
	}
	return string(b)
}

// P1.2: texts, the empty one, bytes that are no text, and sums that go beyond a word.
func TestSum(t *testing.T) {
	for _, c := range sums {
		if got := hash.Sum(c.seed, c.s); got != c.want {
			t.Errorf("Sum(%d, %q) = %d, want %d", c.seed, c.s, got, c.want)
		}
	}
}

// P1.2: the same bytes in a list, which stays as it is.
func TestBytes(t *testing.T) {
	for _, c := range sums {
		b := []byte(c.s)
		if got := hash.Bytes(c.seed, b); got != c.want {
			t.Errorf("Bytes(%d, %q) = %d, want %d", c.seed, b, got, c.want)
		}
		if !bytes.Equal(b, []byte(c.s)) {
			t.Errorf("Bytes has changed %q to %q", c.s, b)
		}
	}
}

// P1.2: nil is the empty list.
func TestBytesOfNil(t *testing.T) {
	if got := hash.Bytes(1, nil); got != hash.Mix(1) {
		t.Errorf("Bytes(1, nil) = %d, want %d", got, hash.Mix(1))
	}
}

// P1.2: the definition, word by word, for strings of many lengths.
func TestSumAfterDefinition(t *testing.T) {
	all := allBytes()
	for n := range len(all) + 1 {
		h := uint64(n) << 56
		for i := range n {
			h = h*31 + uint64(all[i]) + 1
		}
		if got := hash.Sum(uint64(n)<<56, all[:n]); got != hash.Mix(h) {
			t.Errorf("Sum of %d bytes = %d, want %d", n, got, hash.Mix(h))
		}
	}
}

// P1.3: the rest modulo the size, for all sizes that are allowed.
func TestIndexOfEachSize(t *testing.T) {
	for _, sum := range []uint64{0, 1, 5, 106061912290, 1<<24 - 1, 1 << 24, 1 << 63, math.MaxUint64} {
		for size := 1; size <= 1<<24; size *= 2 {
			got, e := hash.Index(sum, size)
			if want := int(sum - sum/uint64(size)*uint64(size)); got != want || e != api.OK {
				t.Errorf("Index(%d, %d) = %d, %d, want %d", sum, size, got, e, want)
			}
		}
	}
}

// P1.3: the examples of the chapter, and the greatest index.
func TestIndexOfSomeSums(t *testing.T) {
	for _, c := range []struct {
		sum        uint64
		size, want int
	}{{106061912290, 16, 2}, {5, 1, 0}, {math.MaxUint64, hash.MaxSize, 1<<24 - 1}} {
		if got, e := hash.Index(c.sum, c.size); got != c.want || e != api.OK {
			t.Errorf("Index(%d, %d) = %d, %d, want %d", c.sum, c.size, got, e, c.want)
		}
	}
}

// P1.3: a size that is no power of two, or one out of range, gives 0 and ErrArg.
func TestIndexOfWrongSizes(t *testing.T) {
	for _, size := range []int{0, -1, -2, -16, 3, 5, 6, 7, 12, 1<<24 - 1, 1<<24 + 1, 1<<24 + 1<<23, 1 << 25, 1 << 32, 1 << 62, math.MaxInt, math.MinInt} {
		if got, e := hash.Index(5, size); got != 0 || e != api.ErrArg {
			t.Errorf("Index(5, %d) = %d, %d, want 0 and ErrArg", size, got, e)
		}
	}
}

// P1.3: numbers around each power of two.
func TestPower(t *testing.T) {
	for _, c := range []struct{ n, want int }{{1, 1}, {2, 2}, {3, 4}, {4, 4}, {5, 8}, {8, 8}, {9, 16}, {1 << 23, 1 << 23}, {1<<23 + 1, 1 << 24}, {1<<24 - 1, 1 << 24}, {1 << 24, 1 << 24}} {
		if got, e := hash.Power(c.n); got != c.want || e != api.OK {
			t.Errorf("Power(%d) = %d, %d, want %d", c.n, got, e, c.want)
		}
	}
}

// P1.3: numbers out of range give 0 and ErrRange.
func TestPowerOutOfRange(t *testing.T) {
	for _, n := range []int{0, -1, -8, 1<<24 + 1, 1 << 25, 1 << 32, 1 << 62, math.MaxInt, math.MinInt} {
		if got, e := hash.Power(n); got != 0 || e != api.ErrRange {
			t.Errorf("Power(%d) = %d, %d, want 0 and ErrRange", n, got, e)
		}
	}
}

// P1.3: the limit itself.
func TestMaxSize(t *testing.T) {
	if hash.MaxSize != 16777216 {
		t.Errorf("MaxSize = %d", hash.MaxSize)
	}
}

// P1.4: the hash of bytes in two parts is that of the second part with the seed that h is after the first one.
func TestSumInTwoParts(t *testing.T) {
	for _, c := range sums {
		h := c.seed
		for i := range len(c.s) + 1 {
			whole, rest := hash.Sum(c.seed, c.s), hash.Sum(h, c.s[i:])
			list := hash.Bytes(h, []byte(c.s)[i:])
			if whole != rest || whole != list {
				t.Errorf("Sum(%d, %q) = %d, but from place %d on it is %d and %d", c.seed, c.s, whole, i, rest, list)
			}
			if i < len(c.s) {
				h = 31*h + uint64(c.s[i]) + 1
			}
		}
	}
}

// P1.4: in a table of twice the size an index is the same or greater by the size, and both are met.
func TestIndexInTwiceTheSize(t *testing.T) {
	for size := 1; size < hash.MaxSize; size *= 2 {
		var same, more bool
		for i := range 64 {
			sum := hash.Sum(uint64(i), "key")
			one, e1 := hash.Index(sum, size)
			two, e2 := hash.Index(sum, 2*size)
			same, more = same || two == one, more || two == one+size
			if e1 != api.OK || e2 != api.OK || two != one && two != one+size {
				t.Errorf("Index(%d, %d) = %d, %d, and %d, %d in twice the size", sum, size, one, e1, two, e2)
			}
		}
		if !same || !more {
			t.Errorf("size %d: same %v, greater %v", size, same, more)
		}
	}
}

// P1.4: powers of two are their own powers.
func TestPowerOfPowers(t *testing.T) {
	for n := 1; n <= hash.MaxSize; n *= 2 {
		if got, e := hash.Power(n); got != n || e != api.OK {
			t.Errorf("Power(%d) = %d, %d", n, got, e)
		}
	}
}

// P1.4, P1.3: Power is at least the number, less than twice the number, and a size of a table.
func TestPowerIsLessThanTwice(t *testing.T) {
	for n := 1; n <= hash.MaxSize; n += 1 + n/97 {
		got, e := hash.Power(n)
		if e != api.OK || got < n || got >= 2*n {
			t.Errorf("Power(%d) = %d, %d", n, got, e)
		}
		if _, e := hash.Index(1, got); e != api.OK {
			t.Errorf("Power(%d) = %d, which is no size: %d", n, got, e)
		}
	}
}

// P1: equal calls have equal results, and a long string comes to an end.
func TestSumAgainAndLong(t *testing.T) {
	b := bytes.Repeat([]byte{0xff}, 1<<20)
	first := hash.Sum(3, string(b))
	if hash.Sum(3, string(b)) != first || hash.Bytes(3, b) != first {
		t.Error("the hash of a long string is not always the same")
	}
}
