package frame_test

import (
	"bytes"
	"encoding/binary"
	"math"
	"slices"
	"testing"

	"tagcache/api"
	"tagcache/frame"
)

// short are the examples of the chapter and other frames of which each byte is written down.
var short = []struct {
	f    api.Frame
	want []byte
}{
	{api.Frame{Code: 9, Payload: []byte("ab")}, []byte{3, 9, 97, 98}},
	{api.Frame{}, []byte{1, 0}},
	{api.Frame{Code: 0, Payload: []byte{}}, []byte{1, 0}},
	{api.Frame{Code: 255}, []byte{1, 255}},
	{api.Frame{Code: 128}, []byte{1, 128}},
	{api.Frame{Code: 0, Payload: []byte{0}}, []byte{2, 0, 0}},
	{api.Frame{Code: 255, Payload: []byte{0, 128, 255}}, []byte{4, 255, 0, 128, 255}},
	{api.Frame{Code: 4, Payload: []byte{1, 97}}, []byte{3, 4, 1, 97}},
	{api.Frame{Code: 1, Payload: repeat(7, 126)}, append([]byte{127, 1}, repeat(7, 126)...)},
	{api.Frame{Code: 1, Payload: repeat(7, 127)}, append([]byte{128, 1, 1}, repeat(7, 127)...)},
	{api.Frame{Code: 0, Payload: repeat(0, 299)}, append([]byte{172, 2, 0}, repeat(0, 299)...)},
}

// lengths are numbers of bytes of payloads on both sides of each place where the length of the frame takes a byte more, and the greatest ones.
var lengths = []int{0, 1, 2, 125, 126, 127, 128, 300, 16381, 16382, 16383, 16384, 1<<21 - 3, 1<<21 - 2, 1<<21 - 1, 1 << 21}

// repeat returns a byte several times, and then others.
func repeat(c byte, times int, others ...byte) []byte {
	return append(bytes.Repeat([]byte{c}, times), others...)
}

// payload returns some bytes, of which no two neighbours are the same.
func payload(n int) []byte {
	p := make([]byte, n)
	for i := range p {
		p[i] = byte(i*7 + i>>8)
	}
	return p
}

// wantWrite returns the bytes of a frame after the definition, with the library's encoding of numbers, which is the same one.
func wantWrite(f api.Frame) []byte {
	return slices.Concat(binary.AppendUvarint(nil, uint64(len(f.Payload)+1)), []byte{f.Code}, f.Payload)
}

// checkRead compares a result of Read with what it should be.
func checkRead(t *testing.T, b []byte, most int, f api.Frame, size int, e api.Errno) {
	t.Helper()
	got, n, g := frame.Read(b, most)
	if got.Code != f.Code || !bytes.Equal(got.Payload, f.Payload) || n != size || g != e {
		t.Errorf("Read of %d bytes %v, %d = code %d and %d bytes, %d, %d, want code %d and %d bytes, %d, %d",
			len(b), b[:min(len(b), 12)], most, got.Code, len(got.Payload), n, g, f.Code, len(f.Payload), size, e)
	}
}

// P5.1: the examples of the chapter, and the ends of each size of a length.
func TestSizeWrite(t *testing.T) {
	for _, c := range short {
		if n, e := frame.Size(c.f); n != len(c.want) || e != api.OK {
			t.Errorf("Size(%v) = %d, %d, want %d", c.f, n, e, len(c.want))
		}
		if b, e := frame.Write(c.f); !bytes.Equal(b, c.want) || e != api.OK {
			t.Errorf("Write(%v) = %v, %d, want %v", c.f, b, e, c.want)
		}
	}
	for _, n := range lengths {
		f := api.Frame{Code: byte(n), Payload: payload(n)}
		want := wantWrite(f)
		if got, e := frame.Size(f); got != len(want) || e != api.OK {
			t.Errorf("Size with %d bytes = %d, %d, want %d", n, got, e, len(want))
		}
		if b, e := frame.Write(f); !bytes.Equal(b, want) || e != api.OK {
			t.Errorf("Write with %d bytes: %d bytes, %d, want %d", n, len(b), e, len(want))
		}
	}
}

// P5.1: the sizes that the chapter names, of which the greatest is that of the longest frame.
func TestSizeOfLongFrames(t *testing.T) {
	if frame.MaxPayload != 2097152 {
		t.Errorf("MaxPayload = %d", frame.MaxPayload)
	}
	for _, c := range []struct {
		n, size int
		e       api.Errno
	}{
		{0, 2, api.OK}, {126, 128, api.OK}, {127, 130, api.OK}, {1 << 21, 2097157, api.OK}, {1<<21 + 1, 0, api.ErrLong},
	} {
		if size, e := frame.Size(api.Frame{Code: 1, Payload: make([]byte, c.n)}); size != c.size || e != c.e {
			t.Errorf("Size with %d bytes = %d, %d, want %d, %d", c.n, size, e, c.size, c.e)
		}
	}
}

// P5.1: a payload that is too long has no size and no bytes.
func TestTooLong(t *testing.T) {
	for _, n := range []int{frame.MaxPayload + 1, frame.MaxPayload + 2, frame.MaxPayload * 2, frame.MaxPayload * 129} {
		f := api.Frame{Code: 5, Payload: make([]byte, n)}
		if size, e := frame.Size(f); size != 0 || e != api.ErrLong {
			t.Errorf("Size with %d bytes = %d, %d", n, size, e)
		}
		if b, e := frame.Write(f); len(b) != 0 || e != api.ErrLong {
			t.Errorf("Write with %d bytes: %d bytes, %d", n, len(b), e)
		}
	}
}

// P5.1, P5.2: each code is written as itself, and read again.
func TestAllCodes(t *testing.T) {
	for code := range 256 {
		f := api.Frame{Code: byte(code), Payload: []byte{1}}
		b, e := frame.Write(f)
		if !bytes.Equal(b, []byte{2, byte(code), 1}) || e != api.OK {
			t.Errorf("Write with the code %d = %v, %d", code, b, e)
		}
		checkRead(t, b, 1, f, 3, api.OK)
	}
}

// P5.1: frames that are equal, and those with another code or another payload.
func TestEqual(t *testing.T) {
	long := payload(frame.MaxPayload + 1)
	other := slices.Clone(long)
	other[frame.MaxPayload]++
	for i, c := range []struct {
		a, b api.Frame
		want bool
	}{
		{api.Frame{}, api.Frame{}, true},
		{api.Frame{}, api.Frame{Payload: []byte{}}, true},
		{api.Frame{Code: 9, Payload: []byte("ab")}, api.Frame{Code: 9, Payload: []byte("ab")}, true},
		{api.Frame{Code: 1}, api.Frame{Code: 2}, false},
		{api.Frame{Code: 0}, api.Frame{Code: 255}, false},
		{api.Frame{Code: 8, Payload: []byte("ab")}, api.Frame{Code: 9, Payload: []byte("ab")}, false},
		{api.Frame{Code: 9, Payload: []byte("ab")}, api.Frame{Code: 9, Payload: []byte("ac")}, false},
		{api.Frame{Code: 9, Payload: []byte("ab")}, api.Frame{Code: 9, Payload: []byte("bb")}, false},
		{api.Frame{Code: 9, Payload: []byte("ab")}, api.Frame{Code: 9, Payload: []byte("ba")}, false},
		{api.Frame{Code: 9, Payload: []byte("ab")}, api.Frame{Code: 9, Payload: []byte("a")}, false},
		{api.Frame{Code: 9, Payload: []byte("ab")}, api.Frame{Code: 9, Payload: []byte("ab\x00")}, false},
		{api.Frame{Code: 9, Payload: []byte{0}}, api.Frame{Code: 9}, false},
		{api.Frame{Code: 1, Payload: []byte{2}}, api.Frame{Code: 2, Payload: []byte{1}}, false},
		{api.Frame{Code: 1, Payload: long}, api.Frame{Code: 1, Payload: slices.Clone(long)}, true},
		{api.Frame{Code: 1, Payload: long}, api.Frame{Code: 1, Payload: other}, false},
		{api.Frame{Code: 1, Payload: long}, api.Frame{Code: 1, Payload: long[:frame.MaxPayload]}, false},
	} {
		if frame.Equal(c.a, c.b) != c.want || frame.Equal(c.b, c.a) != c.want {
			t.Errorf("case %d: Equal is not %t", i, c.want)
		}
		if !frame.Equal(c.a, c.a) || !frame.Equal(c.b, c.b) {
			t.Errorf("case %d: a frame is not equal to itself", i)
		}
	}
}

// P5.2: the examples of the chapter, and frames with what follows them.
func TestRead(t *testing.T) {
	ab := api.Frame{Code: 9, Payload: []byte("ab")}
	for _, c := range []struct {
		b    []byte
		most int
		f    api.Frame
		size int
	}{
		{[]byte{3, 9, 97, 98, 7}, 2, ab, 4},
		{[]byte{3, 9, 97, 98}, 2, ab, 4},
		{[]byte{3, 9, 97, 98}, 3, ab, 4},
		{[]byte{3, 9, 97, 98, 0}, frame.MaxPayload, ab, 4},
		{[]byte{3, 9, 97, 98, 128, 0}, 2, ab, 4},
		{[]byte{1, 0}, 0, api.Frame{}, 2},
		{[]byte{1, 0, 0}, 0, api.Frame{}, 2},
		{[]byte{1, 5}, frame.MaxPayload, api.Frame{Code: 5}, 2},
		{[]byte{1, 255, 255}, 1, api.Frame{Code: 255}, 2},
		{[]byte{2, 128, 128}, 1, api.Frame{Code: 128, Payload: []byte{128}}, 3},
		{append([]byte{127, 1}, repeat(7, 127)...), 126, api.Frame{Code: 1, Payload: repeat(7, 126)}, 128},
		{append([]byte{128, 1, 1}, repeat(7, 128)...), 127, api.Frame{Code: 1, Payload: repeat(7, 127)}, 130},
	} {
		checkRead(t, c.b, c.most, c.f, c.size, api.OK)
	}
}

// P5.2: the errors, each one before those that come after it.
func TestReadErrors(t *testing.T) {
	for _, c := range []struct {
		b    []byte
		most int
		e    api.Errno
	}{
		// the maximum is looked at first
		{[]byte{3, 9, 97, 98}, -1, api.ErrArg},
		{[]byte{1, 5}, -1, api.ErrArg},
		{[]byte{1, 5}, math.MinInt, api.ErrArg},
		{[]byte{1, 5}, frame.MaxPayload + 1, api.ErrArg},
		{[]byte{1, 5}, math.MaxInt, api.ErrArg},
		{nil, -1, api.ErrArg},
		{nil, frame.MaxPayload + 1, api.ErrArg},
		{[]byte{128}, -1, api.ErrArg},
		{[]byte{0, 5}, -1, api.ErrArg},
		{[]byte{0, 5}, math.MaxInt, api.ErrArg},
		{[]byte{128, 0}, -1, api.ErrArg},
		{[]byte{128, 0}, frame.MaxPayload + 1, api.ErrArg},
		{[]byte{3}, -1, api.ErrArg},

		// then whether the length is whole, however great it becomes
		{nil, 0, api.ErrShort},
		{nil, 2, api.ErrShort},
		{[]byte{}, frame.MaxPayload, api.ErrShort},
		{[]byte{128}, 0, api.ErrShort},
		{[]byte{128}, 2, api.ErrShort},
		{[]byte{255}, 2, api.ErrShort},
		{repeat(255, 4), 2, api.ErrShort},
		{repeat(255, 9), frame.MaxPayload, api.ErrShort},
		{repeat(128, 9), 0, api.ErrShort},

		// then whether it is 0
		{[]byte{0}, 0, api.ErrFormat},
		{[]byte{0}, frame.MaxPayload, api.ErrFormat},
		{[]byte{0, 5}, 2, api.ErrFormat},
		{[]byte{0, 0}, 2, api.ErrFormat},
		{[]byte{0, 1, 5}, 2, api.ErrFormat},

		// then whether it is a number at all
		{[]byte{128, 0}, 2, api.ErrLong},
		{[]byte{128, 0}, frame.MaxPayload, api.ErrLong},
		{[]byte{129, 0, 9}, 2, api.ErrLong},
		{[]byte{131, 0, 9, 97, 98}, 2, api.ErrLong},
		{[]byte{128, 128, 0}, 2, api.ErrLong},
		{repeat(255, 9, 2), frame.MaxPayload, api.ErrLong},
		{repeat(128, 9, 0), frame.MaxPayload, api.ErrLong},
		{repeat(128, 10), frame.MaxPayload, api.ErrLong},
		{repeat(255, 10), 0, api.ErrLong},

		// and not greater than it may be, even if the bytes are not there
		{[]byte{3, 9, 97, 98}, 1, api.ErrLong},
		{[]byte{3, 9, 97, 98}, 0, api.ErrLong},
		{[]byte{3, 9}, 1, api.ErrLong},
		{[]byte{3}, 1, api.ErrLong},
		{[]byte{2}, 0, api.ErrLong},
		{[]byte{2, 5, 5}, 0, api.ErrLong},
		{[]byte{128, 1}, 126, api.ErrLong},
		{[]byte{130, 128, 128, 1}, frame.MaxPayload, api.ErrLong},
		{[]byte{129, 128, 128, 1}, frame.MaxPayload - 1, api.ErrLong},
		{[]byte{129, 128, 128, 128, 16, 9}, 0, api.ErrLong},
		{[]byte{131, 128, 128, 128, 16, 9, 97, 98}, 2, api.ErrLong},
		{repeat(128, 9, 1), frame.MaxPayload, api.ErrLong},
		{repeat(255, 9, 1), frame.MaxPayload, api.ErrLong},
		{repeat(255, 8, 127), frame.MaxPayload, api.ErrLong},

		// then whether the code and the payload are there
		{[]byte{3, 9, 97}, 2, api.ErrShort},
		{[]byte{3, 9}, 2, api.ErrShort},
		{[]byte{3}, 2, api.ErrShort},
		{[]byte{1}, 0, api.ErrShort},
		{[]byte{1}, frame.MaxPayload, api.ErrShort},
		{[]byte{128, 1}, 127, api.ErrShort},
		{append([]byte{128, 1, 1}, repeat(7, 126)...), 127, api.ErrShort},
		{[]byte{129, 128, 128, 1}, frame.MaxPayload, api.ErrShort},
		{append([]byte{129, 128, 128, 1, 5}, repeat(7, frame.MaxPayload-1)...), frame.MaxPayload, api.ErrShort},
	} {
		checkRead(t, c.b, c.most, api.Frame{}, 0, c.e)
	}
}

// P5.2: a payload that has just as many bytes as the maximum says, one more and one fewer, at the ends of each size of a length.
func TestReadAroundMaximum(t *testing.T) {
	for _, n := range lengths {
		f := api.Frame{Code: 200, Payload: payload(n)}
		b := wantWrite(f)
		for most := max(0, n-1); most <= min(n+1, frame.MaxPayload); most++ {
			if most < n {
				checkRead(t, b, most, api.Frame{}, 0, api.ErrLong)
				checkRead(t, b[:len(b)-n-1], most, api.Frame{}, 0, api.ErrLong)
				continue
			}
			checkRead(t, b, most, f, len(b), api.OK)
			checkRead(t, append(slices.Clone(b), 1), most, f, len(b), api.OK)
			checkRead(t, b[:len(b)-1], most, api.Frame{}, 0, api.ErrShort)
		}
	}
}

// wantRead returns the result of Read after the definition, for a few bytes, of which at most three are of the length.
func wantRead(b []byte, most int) (api.Frame, int, api.Errno) {
	length, n := binary.Uvarint(b)
	switch {
	case most < 0 || most > frame.MaxPayload:
		return api.Frame{}, 0, api.ErrArg
	case n == 0:
		return api.Frame{}, 0, api.ErrShort
	case n == 1 && length == 0:
		return api.Frame{}, 0, api.ErrFormat
	case n != len(binary.AppendUvarint(nil, length)) || length > uint64(most)+1:
		return api.Frame{}, 0, api.ErrLong
	case length > uint64(len(b)-n):
		return api.Frame{}, 0, api.ErrShort
	}
	size := n + int(length)
	return api.Frame{Code: b[n], Payload: b[n+1 : size]}, size, api.OK
}

// P5.2, P5.3: all lists of up to two bytes, and longer ones with some last bytes, after the definition; and what was read is written with just the bytes that were there.
func TestReadOfFewBytes(t *testing.T) {
	check := func(b ...byte) {
		for _, most := range []int{-1, 0, 1, 2, 3, 126, 127, 128, frame.MaxPayload, frame.MaxPayload + 1} {
			f, size, e := wantRead(b, most)
			checkRead(t, b, most, f, size, e)
			if e != api.OK {
				continue
			}
			got, _, _ := frame.Read(b, most)
			if again, e := frame.Write(got); !bytes.Equal(again, b[:size]) || e != api.OK {
				t.Fatalf("Read(%v) is written as %v, %d", b, again, e)
			}
		}
	}
	check()
	for a := range 256 {
		check(byte(a))
		for b := range 256 {
			check(byte(a), byte(b))
			for _, c := range []byte{0, 1, 127, 128} {
				check(byte(a), byte(b), c)
			}
			check(byte(a), byte(b), 255, 0, 1)
		}
	}
}

// P5.3: Read inverts Write, whatever follows, and each shorter beginning is too short.
func TestReadOfWrite(t *testing.T) {
	for _, n := range []int{0, 1, 2, 126, 127, 128, 300, 16382, 16383} {
		f := api.Frame{Code: byte(n + 1), Payload: payload(n)}
		b, e := frame.Write(f)
		if e != api.OK {
			t.Fatalf("Write with %d bytes: %d", n, e)
		}
		for _, after := range [][]byte{nil, {0}, {1}, {128}, {255, 255}, b, repeat(0, 300)} {
			for _, most := range []int{n, n + 1, frame.MaxPayload} {
				checkRead(t, append(slices.Clone(b), after...), most, f, len(b), api.OK)
			}
		}
		for i := range b {
			checkRead(t, b[:i], n, api.Frame{}, 0, api.ErrShort)
			checkRead(t, b[:i], frame.MaxPayload, api.Frame{}, 0, api.ErrShort)
		}
	}
}

// P5.3: the same for the longest frames, of which not each beginning can be tried.
func TestReadOfLongWrite(t *testing.T) {
	for _, n := range []int{1<<21 - 2, 1<<21 - 1, 1 << 21} {
		f := api.Frame{Code: 77, Payload: payload(n)}
		b, e := frame.Write(f)
		size, g := frame.Size(f)
		if e != api.OK || g != api.OK || size != len(b) {
			t.Fatalf("Write with %d bytes: %d bytes, %d, and Size %d, %d", n, len(b), e, size, g)
		}
		checkRead(t, b, n, f, size, api.OK)
		checkRead(t, append(b, 0, 128), frame.MaxPayload, f, size, api.OK)
		for i := 0; i < size; i += 99991 {
			checkRead(t, b[:i], n, api.Frame{}, 0, api.ErrShort)
			checkRead(t, b[:size-1-i/99991], n, api.Frame{}, 0, api.ErrShort)
		}
	}
}

// P5.3: frames that were written one after the other are read in the same order, and nothing is left over.
func TestReadOfMany(t *testing.T) {
	var b []byte
	for _, c := range short {
		w, _ := frame.Write(c.f)
		b = append(b, w...)
	}
	for _, c := range short {
		f, size, e := frame.Read(b, 299)
		if !frame.Equal(f, c.f) || size != len(c.want) || e != api.OK {
			t.Fatalf("Read = %v, %d, %d, want %v", f, size, e, c.f)
		}
		b = b[size:]
	}
	checkRead(t, b, 299, api.Frame{}, 0, api.ErrShort)
}

// P5.3: what is written and what is written of have no bytes in common, nor has what is written twice.
func TestWriteSharesNothing(t *testing.T) {
	whole := []byte{1, 2, 3, 4, 5, 6, 7, 8, 9, 10, 11, 12, 13, 14, 15, 16}
	kept := slices.Clone(whole)
	for _, p := range [][]byte{whole[:0], whole[:3], whole[4:8], whole} {
		f := api.Frame{Code: 7, Payload: p}
		one, _ := frame.Write(f)
		two, _ := frame.Write(f)
		for i := range one {
			one[i] = 99
		}
		_ = append(one, 99, 99)
		if !bytes.Equal(two, wantWrite(f)) {
			t.Errorf("what was written of %v has become %v", p, two)
		}
	}
	if !bytes.Equal(whole, kept) {
		t.Errorf("the payload has become %v", whole)
	}
}

// P5.3: what is read and what it is read from have no bytes in common, nor has what is read twice.
func TestReadSharesNothing(t *testing.T) {
	b := []byte{3, 9, 97, 98, 1, 5, 2, 6, 99}
	kept := slices.Clone(b)
	one, _, _ := frame.Read(b, 2)
	two, _, _ := frame.Read(b, 2)
	empty, _, _ := frame.Read(b[4:], 2)
	_ = append(one.Payload, 99, 99)
	_ = append(empty.Payload, 99, 99)
	one.Payload[0], one.Payload[1] = 1, 2
	if !bytes.Equal(b, kept) || string(two.Payload) != "ab" {
		t.Errorf("the bytes have become %v, and the other payload %v", b, two.Payload)
	}
	clear(b)
	if string(two.Payload) != "ab" || empty.Code != 5 {
		t.Errorf("what was read has become %v and %v", two, empty)
	}
}

// P1: long lists come to an end, and equal calls have equal results.
func TestLong(t *testing.T) {
	zeros, open, great := repeat(0, 1<<22), repeat(128, 1<<22), repeat(255, 1<<22)
	b := append([]byte{129, 128, 128, 1, 5}, repeat(7, 1<<22)...)
	for range 2 {
		checkRead(t, zeros, frame.MaxPayload, api.Frame{}, 0, api.ErrFormat)
		checkRead(t, open, frame.MaxPayload, api.Frame{}, 0, api.ErrLong)
		checkRead(t, great, frame.MaxPayload, api.Frame{}, 0, api.ErrLong)
		checkRead(t, b, frame.MaxPayload, api.Frame{Code: 5, Payload: repeat(7, frame.MaxPayload)}, frame.MaxPayload+5, api.OK)
	}
}
