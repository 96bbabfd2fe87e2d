package varint_test

import (
	"bytes"
	"encoding/binary"
	"math"
	"math/big"
	"slices"
	"testing"

	"tagcache/api"
	"tagcache/varint"
)

// numbers are the examples of the chapter, and numbers at both ends of each size.
var numbers = []struct {
	n    uint64
	want []byte
}{
	{0, []byte{0}},
	{1, []byte{1}},
	{126, []byte{126}},
	{127, []byte{127}},
	{128, []byte{128, 1}},
	{129, []byte{129, 1}},
	{255, []byte{255, 1}},
	{256, []byte{128, 2}},
	{300, []byte{172, 2}},
	{16383, []byte{255, 127}},
	{16384, []byte{128, 128, 1}},
	{1<<21 - 1, []byte{255, 255, 127}},
	{1 << 21, []byte{128, 128, 128, 1}},
	{1<<28 - 1, []byte{255, 255, 255, 127}},
	{1 << 28, []byte{128, 128, 128, 128, 1}},
	{1<<32 - 1, []byte{255, 255, 255, 255, 15}},
	{1<<35 - 1, []byte{255, 255, 255, 255, 127}},
	{1 << 35, []byte{128, 128, 128, 128, 128, 1}},
	{1<<42 - 1, []byte{255, 255, 255, 255, 255, 127}},
	{1 << 42, []byte{128, 128, 128, 128, 128, 128, 1}},
	{1<<49 - 1, []byte{255, 255, 255, 255, 255, 255, 127}},
	{1 << 49, []byte{128, 128, 128, 128, 128, 128, 128, 1}},
	{1<<56 - 1, []byte{255, 255, 255, 255, 255, 255, 255, 127}},
	{1 << 56, []byte{128, 128, 128, 128, 128, 128, 128, 128, 1}},
	{1<<63 - 1, []byte{255, 255, 255, 255, 255, 255, 255, 255, 127}},
	{1 << 63, []byte{128, 128, 128, 128, 128, 128, 128, 128, 128, 1}},
	{1<<63 + 1, []byte{129, 128, 128, 128, 128, 128, 128, 128, 128, 1}},
	{1<<64 - 2, []byte{254, 255, 255, 255, 255, 255, 255, 255, 255, 1}},
	{1<<64 - 1, []byte{255, 255, 255, 255, 255, 255, 255, 255, 255, 1}},
}

// someNumbers returns numbers around all powers of two, and some between them.
func someNumbers() []uint64 {
	var l []uint64
	n := uint64(1)
	for i := range 64 {
		n = n*6364136223846793005 + 1442695040888963407
		l = append(l, 1<<i-1, 1<<i, 1<<i+1, n, n>>i)
	}
	return append(l, math.MaxUint64)
}

// lists returns beginnings to which something is added: none, some bytes, some that go on in the middle of a number, and one with room behind it.
func lists() [][]byte {
	return [][]byte{nil, {}, {7}, {0, 0}, {128}, {255, 255, 1}, make([]byte, 3, 64)}
}

// repeat returns a byte several times, and then others.
func repeat(c byte, times int, others ...byte) []byte {
	return append(bytes.Repeat([]byte{c}, times), others...)
}

// groups returns the number whose groups bytes have, whether or not it is an encoding, and whether they end with a last group.
func groups(b []byte) (*big.Int, bool) {
	n := new(big.Int)
	for i, c := range b {
		n.Add(n, new(big.Int).Lsh(big.NewInt(int64(c%128)), uint(7*i)))
	}
	return n, b[len(b)-1] < 128
}

// wantGet returns the result of Get after the definition, looking at each beginning, the shortest one first: it is an encoding, or none can be made of it by any further bytes, or it has to go on.
func wantGet(b []byte) (uint64, int, api.Errno) {
	end := new(big.Int).SetUint64(math.MaxUint64)
	for i := range b {
		n, whole := groups(b[:i+1])
		if whole && (i == 0 || b[i] != 0) && n.Cmp(end) <= 0 {
			return n.Uint64(), i + 1, api.OK
		}
		// The least number that may still come has a 1 as its next and last group.
		least := new(big.Int).Add(n, new(big.Int).Lsh(big.NewInt(1), uint(7*i+7)))
		if whole || least.Cmp(end) > 0 {
			return 0, 0, api.ErrFormat
		}
	}
	return 0, 0, api.ErrShort
}

// checkGet compares a result of Get with the definition.
func checkGet(t *testing.T, b []byte) {
	t.Helper()
	n, size, e := varint.Get(b)
	wn, wsize, we := wantGet(b)
	if n != wn || size != wsize || e != we {
		t.Fatalf("Get(%v) = %d, %d, %d, want %d, %d, %d", b, n, size, e, wn, wsize, we)
	}
}

// P4.1: the examples of the chapter, and the ends of each size.
func TestSizePutGet(t *testing.T) {
	for _, c := range numbers {
		if got := varint.Size(c.n); got != len(c.want) {
			t.Errorf("Size(%d) = %d, want %d", c.n, got, len(c.want))
		}
		if got := varint.Put(nil, c.n); !bytes.Equal(got, c.want) {
			t.Errorf("Put(none, %d) = %v, want %v", c.n, got, c.want)
		}
		if n, size, e := varint.Get(c.want); n != c.n || size != len(c.want) || e != api.OK {
			t.Errorf("Get(%v) = %d, %d, %d, want %d", c.want, n, size, e, c.n)
		}
	}
	if varint.MaxSize != 10 {
		t.Errorf("MaxSize = %d", varint.MaxSize)
	}
}

// P4.1: numbers of all sizes, against the library's encoding, which is the same one.
func TestPutAfterLibrary(t *testing.T) {
	for _, n := range someNumbers() {
		want := binary.AppendUvarint(nil, n)
		if got := varint.Put(nil, n); !bytes.Equal(got, want) || varint.Size(n) != len(want) {
			t.Errorf("Put(none, %d) = %v with the size %d, want %v", n, got, varint.Size(n), want)
		}
	}
}

// P4.1: the bytes of the list come first, whatever they are.
func TestPutAfterList(t *testing.T) {
	if got := varint.Put([]byte{7}, 0); !bytes.Equal(got, []byte{7, 0}) {
		t.Errorf("Put(7, 0) = %v", got)
	}
	for _, b := range lists() {
		for _, c := range numbers {
			want := slices.Concat(b, c.want)
			if got := varint.Put(b, c.n); !bytes.Equal(got, want) {
				t.Errorf("Put(%v, %d) = %v, want %v", b, c.n, got, want)
			}
		}
	}
}

// P4.1: the bytes that end too early, last groups of 0, numbers that are too great, and what follows.
func TestGet(t *testing.T) {
	for _, c := range []struct {
		b    []byte
		n    uint64
		size int
		e    api.Errno
	}{
		{[]byte{172, 2, 9}, 300, 2, api.OK},
		{[]byte{0}, 0, 1, api.OK},
		{[]byte{0, 0}, 0, 1, api.OK},
		{[]byte{5, 128, 0}, 5, 1, api.OK},
		{[]byte{127, 255}, 127, 1, api.OK},
		{repeat(255, 9, 1, 2), math.MaxUint64, 10, api.OK},
		{repeat(128, 9, 1, 0), 1 << 63, 10, api.OK},

		{nil, 0, 0, api.ErrShort},
		{[]byte{}, 0, 0, api.ErrShort},
		{[]byte{172}, 0, 0, api.ErrShort},
		{[]byte{128}, 0, 0, api.ErrShort},
		{repeat(128, 9), 0, 0, api.ErrShort},
		{repeat(255, 9), 0, 0, api.ErrShort},

		{[]byte{128, 0}, 0, 0, api.ErrFormat},
		{[]byte{128, 0, 1}, 0, 0, api.ErrFormat},
		{[]byte{255, 0}, 0, 0, api.ErrFormat},
		{[]byte{255, 128, 0}, 0, 0, api.ErrFormat},
		{repeat(128, 8, 0), 0, 0, api.ErrFormat},
		{repeat(128, 9, 0), 0, 0, api.ErrFormat},
		{repeat(255, 9, 0), 0, 0, api.ErrFormat},

		{repeat(255, 9, 2), 0, 0, api.ErrFormat},
		{repeat(128, 9, 2), 0, 0, api.ErrFormat},
		{repeat(128, 9, 127), 0, 0, api.ErrFormat},
		{repeat(128, 10), 0, 0, api.ErrFormat},
		{repeat(128, 9, 129), 0, 0, api.ErrFormat},
		{repeat(128, 10, 0), 0, 0, api.ErrFormat},
		{repeat(128, 10, 1), 0, 0, api.ErrFormat},
		{repeat(255, 10), 0, 0, api.ErrFormat},
		{repeat(255, 11, 1), 0, 0, api.ErrFormat},
	} {
		if n, size, e := varint.Get(c.b); n != c.n || size != c.size || e != c.e {
			t.Errorf("Get(%v) = %d, %d, %d, want %d, %d, %d", c.b, n, size, e, c.n, c.size, c.e)
		}
	}
}

// P4.1: all lists of up to two bytes, and of three with some last ones, after the definition.
func TestGetOfFewBytes(t *testing.T) {
	for a := range 256 {
		checkGet(t, []byte{byte(a)})
		for b := range 256 {
			checkGet(t, []byte{byte(a), byte(b)})
			for _, c := range []byte{0, 1, 127, 128, 129, 255} {
				checkGet(t, []byte{byte(a), byte(b), c})
			}
		}
	}
}

// P4.1: in the last place just one byte is right, whatever the nine before it are, and all others are wrong as soon as they are there.
func TestGetInLastPlace(t *testing.T) {
	for _, before := range [][]byte{repeat(128, 9), repeat(255, 9), repeat(129, 9), repeat(128, 8, 255), repeat(255, 8, 128)} {
		for c := range 256 {
			checkGet(t, append(slices.Clone(before), byte(c)))
			checkGet(t, append(slices.Clone(before), byte(c), 0))
			checkGet(t, append(slices.Clone(before), byte(c), 1))
		}
		if _, size, e := varint.Get(append(before, 1)); size != 10 || e != api.OK {
			t.Errorf("Get(%v and 1): %d, %d", before, size, e)
		}
	}
}

// P4.1: in each place, all bytes after those that let a number go on.
func TestGetInEachPlace(t *testing.T) {
	for place := range 12 {
		for _, before := range []byte{128, 129, 170, 255} {
			for c := range 256 {
				checkGet(t, repeat(before, place, byte(c)))
				checkGet(t, repeat(before, place, byte(c), 3))
			}
		}
	}
}

// P4.2: the examples of the chapter, and lengths at both ends of the sizes of their numbers.
func TestPutBytes(t *testing.T) {
	if got := varint.PutBytes(nil, []byte("ab")); !bytes.Equal(got, []byte{2, 97, 98}) {
		t.Errorf("PutBytes(none, ab) = %v", got)
	}
	if got := varint.PutBytes([]byte{7}, nil); !bytes.Equal(got, []byte{7, 0}) {
		t.Errorf("PutBytes(7, none) = %v", got)
	}
	for _, n := range []int{0, 1, 127, 128, 255, 300, 16383, 16384, 1<<21 - 1, 1 << 21} {
		p := repeat(200, n)
		for _, b := range lists() {
			want := append(binary.AppendUvarint(slices.Clone(b), uint64(n)), p...)
			if got := varint.PutBytes(b, p); !bytes.Equal(got, want) {
				t.Errorf("PutBytes(%v, %d bytes): %d bytes, want %d", b, n, len(got), len(want))
			}
		}
	}
}

var parts = []struct {
	b    []byte
	most int
	p    string
	size int
	e    api.Errno
}{
	{[]byte{2, 97, 98, 99}, 2, "ab", 3, api.OK},
	{[]byte{2, 97, 98}, 2, "ab", 3, api.OK},
	{[]byte{2, 97, 98}, math.MaxInt, "ab", 3, api.OK},
	{[]byte{0}, 0, "", 1, api.OK},
	{[]byte{0, 5}, 9, "", 1, api.OK},
	{[]byte{120}, 119, "", 0, api.ErrLong},
	{append([]byte{130, 1}, repeat(120, 130)...), 130, string(repeat(120, 130)), 132, api.OK},
	{append([]byte{130, 1}, repeat(120, 131)...), 131, string(repeat(120, 130)), 132, api.OK},

	// the maximum is looked at first
	{nil, -1, "", 0, api.ErrArg},
	{[]byte{0}, -1, "", 0, api.ErrArg},
	{[]byte{128, 0}, -1, "", 0, api.ErrArg},
	{[]byte{2, 97}, -1, "", 0, api.ErrArg},
	{[]byte{2, 97, 98}, math.MinInt, "", 0, api.ErrArg},

	// then the length by itself
	{nil, 0, "", 0, api.ErrShort},
	{nil, 5, "", 0, api.ErrShort},
	{[]byte{128}, 0, "", 0, api.ErrShort},
	{[]byte{200}, 5, "", 0, api.ErrShort},
	{repeat(255, 9), 0, "", 0, api.ErrShort},
	{[]byte{128, 0}, 0, "", 0, api.ErrFormat},
	{[]byte{130, 0, 97, 98}, 5, "", 0, api.ErrFormat},
	{repeat(255, 9, 2), 0, "", 0, api.ErrFormat},

	// then whether it is too great, and then whether the bytes are there
	{[]byte{2, 97, 98}, 1, "", 0, api.ErrLong},
	{[]byte{2, 97, 98}, 0, "", 0, api.ErrLong},
	{[]byte{2, 97}, 1, "", 0, api.ErrLong},
	{[]byte{2}, 1, "", 0, api.ErrLong},
	{[]byte{1}, 0, "", 0, api.ErrLong},
	{[]byte{200, 1}, 5, "", 0, api.ErrLong},
	{[]byte{200, 1}, 199, "", 0, api.ErrLong},
	{[]byte{200, 1}, 200, "", 0, api.ErrShort},
	{[]byte{2, 97}, 5, "", 0, api.ErrShort},
	{[]byte{2, 97}, 2, "", 0, api.ErrShort},
	{[]byte{2}, 2, "", 0, api.ErrShort},
	{append([]byte{130, 1}, repeat(120, 129)...), 130, "", 0, api.ErrShort},

	// lengths that are no ints, and those that are just not or just too great
	{repeat(255, 9, 1), 1 << 40, "", 0, api.ErrLong},
	{repeat(255, 9, 1), math.MaxInt, "", 0, api.ErrLong},
	{repeat(255, 9, 1, 97, 98), math.MaxInt, "", 0, api.ErrLong},
	{repeat(128, 9, 1, 97, 98), math.MaxInt, "", 0, api.ErrLong},
	{append([]byte{130}, repeat(128, 8, 1, 97, 98)...), 2, "", 0, api.ErrLong},
	{repeat(255, 8, 127, 97), math.MaxInt, "", 0, api.ErrShort},
	{repeat(255, 8, 127, 97), math.MaxInt - 1, "", 0, api.ErrLong},
	{[]byte{130, 128, 128, 128, 16, 97, 98}, 1 << 33, "", 0, api.ErrShort},
	{[]byte{130, 128, 128, 128, 16, 97, 98}, 2, "", 0, api.ErrLong},
}

// P4.2: the examples of the chapter, and the order of the errors.
func TestGetBytes(t *testing.T) {
	for _, c := range parts {
		if p, size, e := varint.GetBytes(c.b, c.most); string(p) != c.p || size != c.size || e != c.e {
			t.Errorf("GetBytes(%v, %d) = %q, %d, %d, want %q, %d, %d", c.b, c.most, p, size, e, c.p, c.size, c.e)
		}
	}
}

// P4.2: all lengths of a byte, with all numbers of bytes behind them that are around the length, and all maximums that are.
func TestGetBytesAroundLength(t *testing.T) {
	for n := range 128 {
		for there := max(0, n-2); there <= n+2; there++ {
			for most := max(0, n-2); most <= n+2; most++ {
				b := append([]byte{byte(n)}, repeat(255, there)...)
				p, size, e := varint.GetBytes(b, most)
				switch {
				case n > most:
					if len(p) != 0 || size != 0 || e != api.ErrLong {
						t.Fatalf("length %d, %d bytes, maximum %d: %d bytes, %d, %d", n, there, most, len(p), size, e)
					}
				case there < n:
					if len(p) != 0 || size != 0 || e != api.ErrShort {
						t.Fatalf("length %d, %d bytes, maximum %d: %d bytes, %d, %d", n, there, most, len(p), size, e)
					}
				case !bytes.Equal(p, b[1:n+1]) || size != n+1 || e != api.OK:
					t.Fatalf("length %d, %d bytes, maximum %d: %d bytes, %d, %d", n, there, most, len(p), size, e)
				}
			}
		}
	}
}

// wantNumber takes a number from a reader, and checks the result and how many bytes are left.
func wantNumber(t *testing.T, r *varint.Reader, n uint64, e api.Errno, left int) {
	t.Helper()
	if got, f := r.Number(); got != n || f != e || r.Left() != left {
		t.Errorf("Number = %d, %d with %d left, want %d, %d with %d left", got, f, r.Left(), n, e, left)
	}
}

// wantByte takes a byte from a reader, and checks the same.
func wantByte(t *testing.T, r *varint.Reader, c byte, e api.Errno, left int) {
	t.Helper()
	if got, f := r.Byte(); got != c || f != e || r.Left() != left {
		t.Errorf("Byte = %d, %d with %d left, want %d, %d with %d left", got, f, r.Left(), c, e, left)
	}
}

// wantBytes takes bytes from a reader, and checks the same.
func wantBytes(t *testing.T, r *varint.Reader, most int, p string, e api.Errno, left int) {
	t.Helper()
	if got, f := r.Bytes(most); string(got) != p || f != e || r.Left() != left {
		t.Errorf("Bytes(%d) = %q, %d with %d left, want %q, %d with %d left", most, got, f, r.Left(), p, e, left)
	}
}

// P4.3: the example of the chapter, and one in which the kinds follow each other in another order.
func TestReader(t *testing.T) {
	r := varint.New([]byte{5, 1, 120, 7})
	if r.Left() != 4 {
		t.Errorf("Left = %d", r.Left())
	}
	wantNumber(t, r, 5, api.OK, 3)
	wantBytes(t, r, 9, "x", api.OK, 1)
	wantBytes(t, r, 9, "", api.ErrShort, 1)
	wantByte(t, r, 7, api.OK, 0)
	wantByte(t, r, 0, api.ErrShort, 0)

	r = varint.New([]byte{255, 0, 172, 2, 2, 97, 98, 0, 128})
	wantByte(t, r, 255, api.OK, 8)
	wantBytes(t, r, 0, "", api.OK, 7)
	wantNumber(t, r, 300, api.OK, 5)
	wantBytes(t, r, 2, "ab", api.OK, 2)
	wantNumber(t, r, 0, api.OK, 1)
	wantNumber(t, r, 0, api.ErrShort, 1)
	wantByte(t, r, 128, api.OK, 0)
}

// P4.3: with each error a reader is unchanged, so that it is there again, and what is right is taken afterwards.
func TestReaderAfterErrors(t *testing.T) {
	r := varint.New([]byte{130, 0, 2, 97})
	for range 2 {
		wantNumber(t, r, 0, api.ErrFormat, 4)
		wantBytes(t, r, 9, "", api.ErrFormat, 4)
		wantBytes(t, r, -1, "", api.ErrArg, 4)
	}
	wantByte(t, r, 130, api.OK, 3)
	wantBytes(t, r, 9, "", api.OK, 2)
	for range 2 {
		wantBytes(t, r, 1, "", api.ErrLong, 2)
		wantBytes(t, r, 2, "", api.ErrShort, 2)
		wantBytes(t, r, math.MinInt, "", api.ErrArg, 2)
	}
	wantNumber(t, r, 2, api.OK, 1)
	wantNumber(t, r, 97, api.OK, 0)
	for range 2 {
		wantNumber(t, r, 0, api.ErrShort, 0)
		wantByte(t, r, 0, api.ErrShort, 0)
		wantBytes(t, r, 0, "", api.ErrShort, 0)
		wantBytes(t, r, -1, "", api.ErrArg, 0)
	}
}

// P4.3: what a reader takes first is what Get and GetBytes return.
func TestReaderAfterGet(t *testing.T) {
	for _, c := range parts {
		n, size, e := varint.Get(c.b)
		wantNumber(t, varint.New(c.b), n, e, len(c.b)-size)
		wantBytes(t, varint.New(c.b), c.most, c.p, c.e, len(c.b)-c.size)
	}
}

// P4.3: a byte is taken as it is, also one that lets a number go on.
func TestReaderOfAllBytes(t *testing.T) {
	for c := range 256 {
		r := varint.New([]byte{byte(c), 128})
		wantByte(t, r, byte(c), api.OK, 1)
		wantByte(t, r, 128, api.OK, 0)
	}
}

// P4.3, P1: a nil or zero reader has nothing but ErrNil, which comes before ErrArg; a reader of no bytes is none, nor is one of which all was taken.
func TestNilReader(t *testing.T) {
	var zero varint.Reader
	for _, r := range []*varint.Reader{nil, {}, &zero} {
		for range 2 {
			wantNumber(t, r, 0, api.ErrNil, 0)
			wantByte(t, r, 0, api.ErrNil, 0)
			wantBytes(t, r, 9, "", api.ErrNil, 0)
			wantBytes(t, r, -1, "", api.ErrNil, 0)
		}
	}
	used := varint.New([]byte{3})
	wantByte(t, used, 3, api.OK, 0)
	for _, r := range []*varint.Reader{varint.New(nil), varint.New([]byte{}), used} {
		wantNumber(t, r, 0, api.ErrShort, 0)
		wantByte(t, r, 0, api.ErrShort, 0)
		wantBytes(t, r, 9, "", api.ErrShort, 0)
		wantBytes(t, r, -1, "", api.ErrArg, 0)
	}
}

// P4.4: Get inverts Put, whatever is before the encoding and whatever follows, and no shorter beginning is enough.
func TestGetOfPut(t *testing.T) {
	for _, n := range someNumbers() {
		for _, b := range lists() {
			all := varint.Put(b, n)
			for _, after := range [][]byte{nil, {0}, {1}, {127}, {128}, {255, 255, 255, 255, 255, 255, 255, 255, 255, 255}} {
				got, size, e := varint.Get(append(slices.Clone(all[len(b):]), after...))
				if got != n || size != len(all)-len(b) || size != varint.Size(n) || e != api.OK {
					t.Fatalf("Get of %d with %v after it = %d, %d, %d", n, after, got, size, e)
				}
			}
			for i := len(b); i < len(all); i++ {
				if got, size, e := varint.Get(all[len(b):i]); got != 0 || size != 0 || e != api.ErrShort {
					t.Fatalf("Get of %d bytes of %d = %d, %d, %d", i-len(b), n, got, size, e)
				}
			}
		}
	}
}

// P4.4: what Get returns has just the encoding that was there, and so no other bytes are accepted.
func TestPutOfGot(t *testing.T) {
	signs := []byte{0, 1, 2, 127, 128, 129, 255}
	l := [][]byte{{}}
	for range 6 {
		var longer [][]byte
		for _, b := range l {
			for _, c := range signs {
				longer = append(longer, append(slices.Clone(b), c))
			}
		}
		l = longer
		for _, b := range l {
			for _, more := range []int{0, 4} {
				whole := append(repeat(170, more), b...)
				n, size, e := varint.Get(whole)
				if e == api.OK && !bytes.Equal(varint.Put(nil, n), whole[:size]) {
					t.Fatalf("Get(%v) = %d, %d", whole, n, size)
				}
				if e != api.OK && (n != 0 || size != 0) {
					t.Fatalf("Get(%v) = %d, %d, %d", whole, n, size, e)
				}
			}
		}
	}
}

// P4.4: GetBytes inverts PutBytes, whatever follows, and no shorter beginning is enough.
func TestGetBytesOfPutBytes(t *testing.T) {
	for _, n := range []int{0, 1, 2, 127, 128, 129, 300} {
		p := repeat(130, n)
		all := varint.PutBytes(nil, p)
		for _, after := range [][]byte{nil, {0}, {255, 255}} {
			got, size, e := varint.GetBytes(append(slices.Clone(all), after...), n)
			if !bytes.Equal(got, p) || size != len(all) || e != api.OK {
				t.Errorf("GetBytes of %d bytes = %d bytes, %d, %d", n, len(got), size, e)
			}
		}
		for i := range all {
			if got, size, e := varint.GetBytes(all[:i], n); len(got) != 0 || size != 0 || e != api.ErrShort {
				t.Errorf("GetBytes of %d of %d bytes = %v, %d, %d", i, len(all), got, size, e)
			}
		}
	}
}

// P4.4: a reader takes what was put, in the same order, and nothing is left over.
func TestReaderOfPut(t *testing.T) {
	l := someNumbers()
	var b []byte
	for i, n := range l {
		switch i % 3 {
		case 0:
			b = varint.Put(b, n)
		case 1:
			b = varint.PutBytes(b, repeat(byte(n), int(n%300)))
		case 2:
			b = append(b, byte(n))
		}
	}
	r, left := varint.New(b), len(b)
	for i, n := range l {
		switch i % 3 {
		case 0:
			left -= varint.Size(n)
			wantNumber(t, r, n, api.OK, left)
		case 1:
			left -= varint.Size(n%300) + int(n%300)
			wantBytes(t, r, int(n%300), string(repeat(byte(n), int(n%300))), api.OK, left)
		case 2:
			left--
			wantByte(t, r, byte(n), api.OK, left)
		}
	}
	if r.Left() != 0 {
		t.Errorf("%d bytes are left over", r.Left())
	}
}

// P4.4: a list to which something is put keeps its own bytes, and so does the room behind it, which another list may have.
func TestPutSharesNothing(t *testing.T) {
	whole := []byte{1, 2, 3, 4, 5, 6, 7, 8, 9, 10, 11, 12, 13, 14, 15, 16}
	kept := slices.Clone(whole)
	p := []byte("ab")
	for _, b := range [][]byte{whole[:0], whole[:3], whole[:6], whole} {
		for _, got := range [][]byte{varint.Put(b, 5), varint.Put(b, math.MaxUint64), varint.PutBytes(b, p), varint.PutBytes(b, nil), varint.PutBytes(b, b), varint.PutBytes(nil, b)} {
			for i := range got {
				got[i] = 99
			}
			_ = append(got, 99)
		}
	}
	if !bytes.Equal(whole, kept) || string(p) != "ab" {
		t.Errorf("the arguments have become %v and %q", whole, p)
	}

	b := make([]byte, 1, 64)
	one, two := varint.Put(b, 300), varint.PutBytes(b, p)
	if !bytes.Equal(one, []byte{0, 172, 2}) || !bytes.Equal(two, []byte{0, 2, 97, 98}) {
		t.Errorf("put after the same list: %v and %v", one, two)
	}
}

// P4.4: bytes that were taken are new ones, and so is what a reader has.
func TestTakenSharesNothing(t *testing.T) {
	b := []byte{2, 97, 98, 1, 99, 7}
	one, _, _ := varint.GetBytes(b, 9)
	one[0], _ = 99, append(one, 99, 99)
	two, _, e := varint.GetBytes(b, 9)
	if string(two) != "ab" || e != api.OK || !bytes.Equal(b, []byte{2, 97, 98, 1, 99, 7}) {
		t.Errorf("GetBytes = %q, %d of %v", two, e, b)
	}

	r, other := varint.New(b), varint.New(b)
	clear(b)
	one, _ = r.Bytes(9)
	one[0], _ = 100, append(one, 100, 100)
	wantBytes(t, r, 9, "c", api.OK, 1)
	wantByte(t, r, 7, api.OK, 0)
	wantBytes(t, other, 9, "ab", api.OK, 3)
	if string(one) != "db" {
		t.Errorf("what was taken has become %q", one)
	}
}

// P1: long lists come to an end, and equal calls have equal results.
func TestLong(t *testing.T) {
	long := repeat(128, 1<<20)
	for range 2 {
		if n, size, e := varint.Get(long); n != 0 || size != 0 || e != api.ErrFormat {
			t.Errorf("Get of a long list = %d, %d, %d", n, size, e)
		}
		if p, size, e := varint.GetBytes(varint.PutBytes(nil, long), math.MaxInt); !bytes.Equal(p, long) || size != len(long)+3 || e != api.OK {
			t.Errorf("GetBytes of a long list = %d bytes, %d, %d", len(p), size, e)
		}
	}
	r := varint.New(repeat(1, 1<<20))
	for left := 1<<20 - 1; left >= 0; left-- {
		wantNumber(t, r, 1, api.OK, left)
	}
}
