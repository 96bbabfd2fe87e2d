package decode_test

import (
	"bytes"
	"encoding/binary"
	"math"
	"slices"
	"testing"

	"tagcache/api"
	"tagcache/decode"
	"tagcache/frame"
)

// got is what a Next has returned.
type got struct {
	f api.Frame
	e api.Errno
}

// taken is a frame as Next should return it.
func taken(code byte, payload string) got {
	return got{api.Frame{Code: code, Payload: []byte(payload)}, api.OK}
}

// failed is an error as Next should return it.
func failed(e api.Errno) got { return got{e: e} }

// same reports whether two results of Next are the same.
func same(a, b got) bool { return a.e == b.e && frame.Equal(a.f, b.f) }

// repeat returns a byte several times, and then others.
func repeat(c byte, times int, others ...byte) []byte {
	return append(bytes.Repeat([]byte{c}, times), others...)
}

// payload returns some bytes, of which no two neighbours are the same.
func payload(n int) []byte {
	p := make([]byte, n)
	for i := range p {
		p[i] = byte(i*7 + i>>8)
	}
	return p
}

// open returns a new decoder.
func open(t *testing.T, most int) *decode.Decoder {
	t.Helper()
	d, e := decode.New(most)
	if d == nil || e != api.OK {
		t.Fatalf("New(%d) = %v, %d", most, d, e)
	}
	return d
}

// feed feeds bytes to a decoder that is open.
func feed(t *testing.T, d *decode.Decoder, b ...byte) {
	t.Helper()
	if e := d.Feed(b); e != api.OK {
		t.Fatalf("Feed of %d bytes %v = %d", len(b), b[:min(len(b), 12)], e)
	}
}

// checkNext compares what Next returns with what it should be.
func checkNext(t *testing.T, d *decode.Decoder, want got) {
	t.Helper()
	if f, e := d.Next(); !same(got{f, e}, want) {
		t.Fatalf("Next = code %d and %d bytes, %d, want code %d and %d bytes, %d",
			f.Code, len(f.Payload), e, want.f.Code, len(want.f.Payload), want.e)
	}
}

// checkState compares what a decoder says of itself with what it should be.
func checkState(t *testing.T, d *decode.Decoder, held, need int, closed bool) {
	t.Helper()
	if d.Held() != held || d.Need() != need || d.Closed() != closed {
		t.Fatalf("Held, Need, Closed = %d, %d, %t, want %d, %d, %t", d.Held(), d.Need(), d.Closed(), held, need, closed)
	}
}

// checkAll compares what All returns with what it should be.
func checkAll(t *testing.T, b []byte, most int, want []got) {
	t.Helper()
	frames, errors, e := decode.All(b, most)
	if len(frames) != len(want) || len(errors) != len(want) || e != api.OK {
		t.Fatalf("All of %d bytes %v, %d = %d frames, %v, %d, want %d", len(b), b[:min(len(b), 12)], most, len(frames), errors, e, len(want))
	}
	for i := range want {
		if !same(got{frames[i], errors[i]}, want[i]) {
			t.Fatalf("All of %d bytes %v, %d: at %d code %d and %d bytes, %d, want code %d and %d bytes, %d",
				len(b), b[:min(len(b), 12)], most, i, frames[i].Code, len(frames[i].Payload), errors[i], want[i].f.Code, len(want[i].f.Payload), want[i].e)
		}
	}
}

// stream returns what Next takes from bytes after the definition, and how many bytes are left, with the library's encoding of numbers; none of the lengths has more than nine bytes.
func stream(b []byte, most int) (list []got, left int) {
	for {
		length, n := binary.Uvarint(b)
		switch {
		case n == 0:
			return list, len(b)
		case n == 1 && length == 0:
			list, b = append(list, failed(api.ErrFormat)), b[1:]
			continue
		case n != len(binary.AppendUvarint(nil, length)) || length > uint64(most)+1:
			return append(list, failed(api.ErrLong)), 0
		case length > uint64(len(b)-n):
			return list, len(b)
		}
		end := n + int(length)
		list, b = append(list, taken(b[n], string(b[n+1:end]))), b[end:]
	}
}

// lists calls a function with all lists of at most some bytes of a few.
func lists(few []byte, most int, f func(b []byte)) {
	var longer func(b []byte)
	longer = func(b []byte) {
		f(b)
		if len(b) == most {
			return
		}
		for _, c := range few {
			longer(append(slices.Clone(b), c))
		}
	}
	longer(nil)
}

// takeAll returns what Next of a decoder takes until there is nothing more.
func takeAll(d *decode.Decoder) (list []got) {
	for {
		f, e := d.Next()
		if e == api.ErrShort || e == api.ErrClosed {
			return list
		}
		list = append(list, got{f, e})
	}
}

// P6.1: the maximums that are allowed, and those that are not.
func TestNew(t *testing.T) {
	for _, most := range []int{0, 1, 2, 127, 65536, frame.MaxPayload - 1, frame.MaxPayload} {
		d := open(t, most)
		checkState(t, d, 0, 1, false)
		checkNext(t, d, failed(api.ErrShort))
	}
	for _, most := range []int{-1, -2, math.MinInt, frame.MaxPayload + 1, 2097153, math.MaxInt} {
		if d, e := decode.New(most); d != nil || e != api.ErrArg {
			t.Errorf("New(%d) = %v, %d", most, d, e)
		}
	}
}

// P6.1, P6.2: the maximum is that of the payload, not of the frame.
func TestMaximum(t *testing.T) {
	for _, most := range []int{0, 1, 2, 125, 126, 127, 128, 300, 16382, 16383, frame.MaxPayload - 1, frame.MaxPayload} {
		for n := max(0, most-1); n <= most+1; n++ {
			b := slices.Concat(binary.AppendUvarint(nil, uint64(n+1)), []byte{5}, payload(n), []byte{1, 6})
			d := open(t, most)
			feed(t, d, b...)
			if n > most {
				checkState(t, d, len(b), 0, false)
				checkNext(t, d, failed(api.ErrLong))
				checkState(t, d, 0, 0, true)
				continue
			}
			checkNext(t, d, got{api.Frame{Code: 5, Payload: payload(n)}, api.OK})
			checkNext(t, d, taken(6, ""))
			checkState(t, d, 0, 1, false)
		}
	}
}

// P6.1, P6.2, P6.3: the examples of the chapter.
func TestExamples(t *testing.T) {
	d := open(t, 2)
	checkNext(t, d, failed(api.ErrShort))
	checkState(t, d, 0, 1, false)
	feed(t, d, 3, 9)
	checkNext(t, d, failed(api.ErrShort))
	checkState(t, d, 2, 2, false)
	feed(t, d, 97, 98, 0, 1)
	checkNext(t, d, taken(9, "ab"))
	checkNext(t, d, failed(api.ErrFormat))
	checkNext(t, d, failed(api.ErrShort))
	feed(t, d, 7)
	checkNext(t, d, taken(7, ""))
	feed(t, d, 4)
	checkNext(t, d, failed(api.ErrLong))
	if !d.Closed() {
		t.Error("it is not closed")
	}
	checkNext(t, d, failed(api.ErrClosed))
	if e := d.Feed([]byte{1}); e != api.ErrClosed {
		t.Errorf("Feed = %d", e)
	}
	checkState(t, d, 0, 0, true)
}

// P6.1: bytes are held until they are taken, and no bytes change nothing.
func TestHeld(t *testing.T) {
	d := open(t, 200)
	held := 0
	for i := range 150 {
		feed(t, d, repeat(1, i%3)...)
		feed(t, d)
		held += i % 3
		if d.Held() != held || d.Closed() {
			t.Fatalf("Held = %d, want %d", d.Held(), held)
		}
	}
	d = open(t, 3)
	feed(t, d, 1, 5, 2, 6, 97, 0, 3, 7)
	for _, c := range []struct {
		want got
		held int
	}{{taken(5, ""), 6}, {taken(6, "a"), 3}, {failed(api.ErrFormat), 2}, {failed(api.ErrShort), 2}, {failed(api.ErrShort), 2}} {
		checkNext(t, d, c.want)
		if d.Held() != c.held {
			t.Fatalf("Held = %d, want %d", d.Held(), c.held)
		}
	}
}

// P6.1, P6.2, P6.3: a decoder that is closed stays so, and holds nothing.
func TestClosed(t *testing.T) {
	for _, b := range [][]byte{{4}, {4, 1, 2, 3, 4}, {128, 0}, {128, 0, 1, 5}, {255, 1}, {1, 5, 4, 1, 5}, {0, 128, 0, 0}, repeat(128, 10), repeat(255, 9, 2), repeat(255, 9, 1)} {
		d := open(t, 2)
		feed(t, d, b...)
		for d.Need() == 0 && !d.Closed() {
			if _, e := d.Next(); (e == api.ErrLong) != d.Closed() {
				t.Fatalf("%v: Next = %d, Closed = %t", b, e, d.Closed())
			}
		}
		for range 3 {
			checkState(t, d, 0, 0, true)
			checkNext(t, d, failed(api.ErrClosed))
			if d.Feed([]byte{1, 5}) != api.ErrClosed || d.Feed(nil) != api.ErrClosed {
				t.Errorf("%v: Feed after the end", b)
			}
		}
		c := d.Copy()
		checkState(t, c, 0, 0, true)
		checkNext(t, c, failed(api.ErrClosed))
		if e := c.Feed([]byte{1}); e != api.ErrClosed {
			t.Errorf("%v: Feed of the copy = %d", b, e)
		}
	}
}

// P6.1, P6.2, P6.3: nil and zero decoders.
func TestNoDecoder(t *testing.T) {
	var none *decode.Decoder
	for i, d := range []*decode.Decoder{none, {}} {
		for range 2 {
			if d.Feed(nil) != api.ErrNil || d.Feed([]byte{1, 5}) != api.ErrNil {
				t.Errorf("case %d: Feed has not failed", i)
			}
			checkNext(t, d, failed(api.ErrNil))
			checkState(t, d, 0, 0, false)
			if d.Copy() != nil {
				t.Errorf("case %d: there is a copy", i)
			}
		}
	}
}

// P6.1: a copy goes on where the decoder was, and neither of them changes the other one.
func TestCopy(t *testing.T) {
	b := []byte{3, 9, 97, 98, 0, 1, 7}
	for before := range len(b) + 1 {
		d := open(t, 2)
		feed(t, d, b[:before]...)
		first := takeAll(d)
		held, need := d.Held(), d.Need()
		c := d.Copy()
		other := c.Copy()

		feed(t, d, b[before:]...)
		checkState(t, c, held, need, false)
		want, _ := stream(b, 2)
		if list := append(slices.Clone(first), takeAll(d)...); !slices.EqualFunc(list, want, same) {
			t.Errorf("after %d bytes the decoder takes %v", before, list)
		}
		checkState(t, d, 0, 1, false)

		feed(t, c, repeat(4, 9)...)
		want, _ = stream(append(slices.Clone(b[:before]), repeat(4, 9)...), 2)
		if list := append(slices.Clone(first), takeAll(c)...); !slices.EqualFunc(list, want, same) {
			t.Errorf("after %d bytes the copy takes %v", before, list)
		}
		checkState(t, c, 0, 0, true)
		checkState(t, d, 0, 1, false)
		checkState(t, other, held, need, false)
	}
}

// P6.1: a copy has the maximum of the decoder, 0 too.
func TestCopyHasMaximum(t *testing.T) {
	for _, most := range []int{0, 1, 2, 126, 127, frame.MaxPayload} {
		d := open(t, most)
		feed(t, d, 1, 8)
		c := d.Copy()
		checkNext(t, c, taken(8, ""))
		feed(t, c, binary.AppendUvarint(nil, uint64(most+1))...)
		checkState(t, c, len(binary.AppendUvarint(nil, uint64(most+1))), most+1, false)
		checkNext(t, c.Copy(), failed(api.ErrShort))
		e := c.Copy()
		checkNext(t, d, taken(8, ""))
		feed(t, d, binary.AppendUvarint(nil, uint64(most+2))...)
		c = d.Copy()
		checkNext(t, c, failed(api.ErrLong))
		checkState(t, d, len(binary.AppendUvarint(nil, uint64(most+2))), 0, false)
		checkNext(t, d, failed(api.ErrLong))
		if e.Closed() {
			t.Errorf("most %d: another decoder is closed", most)
		}
	}
}

// P6.1: bytes that were fed are kept as they were, and what is fed later is not written behind them.
func TestFeedSharesNothing(t *testing.T) {
	for first := range 8 {
		b := []byte{3, 9, 97, 98, 2, 6, 99}
		kept := slices.Clone(b)
		d := open(t, 2)
		feed(t, d, b[:first]...)
		feed(t, d, kept[first:]...)
		feed(t, d, 1, 7)
		if !bytes.Equal(b, kept) {
			t.Fatalf("the bytes have become %v", b)
		}
		copy(b, repeat(255, len(b)))
		checkNext(t, d, taken(9, "ab"))
		checkNext(t, d, taken(6, "c"))
		checkNext(t, d, taken(7, ""))

		feed(t, d, kept[:first]...)
		piece := slices.Clone(kept[first:])
		feed(t, d, piece...)
		copy(piece, repeat(255, len(piece)))
		checkNext(t, d, taken(9, "ab"))
		checkNext(t, d, taken(6, "c"))
	}
}

// P6.1, P6.2: bytes that were fed and frames that were taken are not those of the decoder.
func TestNextSharesNothing(t *testing.T) {
	b := []byte{3, 9, 97, 98, 3, 8, 99, 100, 1, 7, 2, 6}
	kept := slices.Clone(b)
	d := open(t, 2)
	for _, part := range [][]byte{b[:2], b[2:]} {
		feed(t, d, part...)
	}
	if e := d.Feed(b); e != api.OK || !bytes.Equal(b, kept) {
		t.Fatalf("Feed = %d, of %v", e, b)
	}
	for i := range b {
		b[i] = 255
	}
	var all []api.Frame
	for _, w := range []got{taken(9, "ab"), taken(8, "cd"), taken(7, ""), taken(6, "\x03")} {
		f, e := d.Next()
		if !same(got{f, e}, w) {
			t.Fatalf("Next = %v, %d, want %v", f, e, w)
		}
		_ = append(f.Payload, 255, 255, 255)
		for i := range f.Payload {
			f.Payload[i]++
		}
		all = append(all, f)
	}
	for i, want := range []string{"bc", "de", "", "\x04"} {
		if string(all[i].Payload) != want {
			t.Errorf("the payload %d has become %v", i, all[i].Payload)
		}
	}
}

// P6.1: a decoder and its copies have no bytes in common, however much room there is for more: each is fed a byte in turn.
func TestCopySharesNothing(t *testing.T) {
	for n := range 70 {
		d := open(t, 200)
		feed(t, d, 140, 1, 5) // 139 bytes of payload follow
		for range n {
			feed(t, d, 1)
		}
		c := d.Copy()
		all := []*decode.Decoder{d, c, c.Copy()}
		for range 139 - n {
			for i, x := range all {
				feed(t, x, byte(i+2))
			}
		}
		for i, x := range all {
			want := slices.Concat(repeat(1, n), repeat(byte(i+2), 139-n))
			checkNext(t, x, got{api.Frame{Code: 5, Payload: want}, api.OK})
		}
	}
}

// P6.2: a frame that is not whole changes nothing, and each other thing is taken just once.
func TestNext(t *testing.T) {
	b := slices.Concat([]byte{1, 0, 3, 255, 0, 128, 0, 0, 128, 1, 2}, repeat(9, 127), []byte{1, 1, 130, 0})
	want := []got{taken(0, ""), taken(255, "\x00\x80"), failed(api.ErrFormat), failed(api.ErrFormat),
		{api.Frame{Code: 2, Payload: repeat(9, 127)}, api.OK}, taken(1, ""), failed(api.ErrLong)}
	d := open(t, 127)
	for i := range b {
		feed(t, d, b[i])
		held := d.Held()
		for d.Need() == 0 {
			checkNext(t, d, want[0])
			want = want[1:]
			if held = d.Held(); d.Closed() {
				break
			}
		}
		if !d.Closed() {
			checkNext(t, d, failed(api.ErrShort))
			checkNext(t, d, failed(api.ErrShort))
			if d.Held() != held {
				t.Fatalf("ErrShort after %d bytes has taken %d", i+1, held-d.Held())
			}
		}
	}
	if len(want) != 0 {
		t.Errorf("%d things are missing", len(want))
	}
	checkState(t, d, 0, 0, true)
}

// P6.2: whatever is no length closes, even if it is not as long as it could be; what is not whole yet does not.
func TestNoLengths(t *testing.T) {
	for _, c := range []struct {
		b    []byte
		most int
		want api.Errno
	}{
		{nil, 0, api.ErrShort}, {[]byte{128}, 0, api.ErrShort}, {[]byte{255, 255}, 0, api.ErrShort}, {repeat(128, 9), 2, api.ErrShort}, {repeat(255, 9), frame.MaxPayload, api.ErrShort},
		{[]byte{0}, 0, api.ErrFormat}, {[]byte{0, 128, 0}, 0, api.ErrFormat}, {[]byte{0}, frame.MaxPayload, api.ErrFormat},
		{[]byte{128, 0}, frame.MaxPayload, api.ErrLong}, {[]byte{129, 0, 5}, 9, api.ErrLong}, {[]byte{128, 128, 0}, 9, api.ErrLong},
		{repeat(128, 10), frame.MaxPayload, api.ErrLong}, {repeat(255, 9, 2), frame.MaxPayload, api.ErrLong}, {repeat(255, 9, 1), frame.MaxPayload, api.ErrLong}, {repeat(128, 9, 1), frame.MaxPayload, api.ErrLong},
		{[]byte{130, 128, 128, 1}, frame.MaxPayload, api.ErrLong}, {[]byte{129, 128, 128, 1}, frame.MaxPayload - 1, api.ErrLong}, {[]byte{129, 128, 128, 1}, frame.MaxPayload, api.ErrShort},
		{[]byte{2}, 0, api.ErrLong}, {[]byte{1}, 0, api.ErrShort},
	} {
		d := open(t, c.most)
		feed(t, d, c.b...)
		checkNext(t, d, failed(c.want))
		switch c.want {
		case api.ErrShort:
			if d.Held() != len(c.b) || d.Closed() {
				t.Errorf("%v: Held = %d, Closed = %t", c.b, d.Held(), d.Closed())
			}
		case api.ErrFormat:
			if d.Held() != len(c.b)-1 || d.Closed() {
				t.Errorf("%v: Held = %d, Closed = %t", c.b, d.Held(), d.Closed())
			}
		default:
			checkState(t, d, 0, 0, true)
		}
	}
}

// P6.3: how many bytes are missing, in each place of a frame and before it.
func TestNeed(t *testing.T) {
	for _, c := range []struct {
		b          []byte
		most, need int
	}{
		{nil, 0, 1}, {nil, 9, 1}, {[]byte{128}, 9, 1}, {[]byte{128}, frame.MaxPayload, 1}, {[]byte{255, 255}, 9, 1}, {repeat(255, 9), 9, 1},
		{[]byte{1}, 0, 1}, {[]byte{3}, 2, 3}, {[]byte{3, 9}, 2, 2}, {[]byte{3, 9, 97}, 2, 1}, {[]byte{3, 9, 97, 98}, 2, 0}, {[]byte{3, 9, 97, 98, 3}, 2, 0},
		{[]byte{127}, 126, 127}, {[]byte{128, 1}, 127, 128}, {[]byte{128, 1, 0}, 127, 127}, {[]byte{172, 2}, 299, 300}, {append([]byte{172, 2}, repeat(0, 299)...), 299, 1}, {append([]byte{172, 2}, repeat(0, 300)...), 299, 0},
		{[]byte{129, 128, 128, 1}, frame.MaxPayload, frame.MaxPayload + 1}, {[]byte{129, 128, 128, 1, 77}, frame.MaxPayload, frame.MaxPayload},
		{[]byte{0}, 2, 0}, {[]byte{0, 3}, 2, 0}, {[]byte{4}, 2, 0}, {[]byte{4, 1, 1, 1, 1}, 2, 0}, {[]byte{2}, 0, 0}, {[]byte{128, 0}, 9, 0}, {[]byte{131, 0, 9}, 9, 0}, {[]byte{130, 128, 128, 1}, frame.MaxPayload, 0}, {repeat(128, 10), 9, 0},
	} {
		d := open(t, c.most)
		feed(t, d, c.b...)
		checkState(t, d, len(c.b), c.need, false)
		checkState(t, d, len(c.b), c.need, false)
		if _, e := d.Next(); (e == api.ErrShort) != (c.need > 0) {
			t.Errorf("%v: Next = %d, Need was %d", c.b, e, c.need)
		}
	}
}

// P6.3: with fewer bytes than Need says, whichever they are, Next is still ErrShort, and with some of just as many it is not.
func TestNeedIsLeast(t *testing.T) {
	for _, most := range []int{0, 1, 2, 200} {
		lists([]byte{0, 1, 2, 3, 128, 131}, 4, func(b []byte) {
			d := open(t, most)
			feed(t, d, b...)
			for d.Need() == 0 && !d.Closed() {
				if _, e := d.Next(); e == api.ErrShort {
					t.Fatalf("%v, %d: Need = 0 before ErrShort", b, most)
				}
			}
			need := d.Need()
			if d.Closed() {
				return
			}
			ends := false
			for _, c := range []byte{0, 1, 127, 128, 255} {
				less, enough := d.Copy(), d.Copy()
				feed(t, less, repeat(c, need-1)...)
				if _, e := less.Next(); e != api.ErrShort {
					t.Fatalf("%v, %d: Next = %d with less than Need", b, most, e)
				}
				feed(t, enough, repeat(c, need)...)
				_, e := enough.Next()
				ends = ends || e != api.ErrShort
			}
			if !ends {
				t.Fatalf("%v, %d: Next is ErrShort with what Need says", b, most)
			}
		})
	}
}

// P6.4: the examples of the chapter, and others.
func TestAll(t *testing.T) {
	for _, c := range []struct {
		b    []byte
		most int
		want []got
	}{
		{[]byte{1, 5, 0, 2, 6, 97, 2}, 9, []got{taken(5, ""), failed(api.ErrFormat), taken(6, "a")}},
		{[]byte{9, 1}, 3, []got{failed(api.ErrLong)}},
		{nil, 3, nil},
		{[]byte{}, 0, nil},
		{[]byte{128}, 0, nil},
		{[]byte{3, 9, 97}, 2, nil},
		{[]byte{0}, 0, []got{failed(api.ErrFormat)}},
		{[]byte{0, 0, 0, 1}, 0, []got{failed(api.ErrFormat), failed(api.ErrFormat), failed(api.ErrFormat)}},
		{[]byte{1, 0}, 0, []got{taken(0, "")}},
		{[]byte{1, 0, 1, 1, 2, 2}, 0, []got{taken(0, ""), taken(1, ""), failed(api.ErrLong)}},
		{[]byte{1, 8, 128, 0, 1, 1}, 3, []got{taken(8, ""), failed(api.ErrLong)}},
		{[]byte{1, 8, 0, 4, 1, 1}, 2, []got{taken(8, ""), failed(api.ErrFormat), failed(api.ErrLong)}},
		{[]byte{3, 1, 0, 0, 0, 3, 2, 128, 0}, 2, []got{taken(1, "\x00\x00"), failed(api.ErrFormat), taken(2, "\x80\x00")}},
		{slices.Concat([]byte{128, 1, 4}, repeat(7, 127), []byte{1}), 127, []got{{api.Frame{Code: 4, Payload: repeat(7, 127)}, api.OK}}},
		{repeat(255, 11), frame.MaxPayload, []got{failed(api.ErrLong)}},
	} {
		checkAll(t, c.b, c.most, c.want)
	}
}

// P6.4: a maximum that is not allowed, whatever the bytes are.
func TestAllErrors(t *testing.T) {
	for _, most := range []int{-1, math.MinInt, frame.MaxPayload + 1, math.MaxInt} {
		for _, b := range [][]byte{nil, {1, 5}, {0}, {128, 0}, {9}} {
			if frames, errors, e := decode.All(b, most); len(frames) != 0 || len(errors) != 0 || e != api.ErrArg {
				t.Errorf("All(%v, %d) = %v, %v, %d", b, most, frames, errors, e)
			}
		}
	}
}

// P6.4: all lists of a few bytes, after the definition, and as Next of a decoder says.
func TestAllAfterDefinition(t *testing.T) {
	for _, most := range []int{0, 1, 2, 130, frame.MaxPayload} {
		lists([]byte{0, 1, 2, 3, 128}, 6, func(b []byte) {
			want, left := stream(b, most)
			checkAll(t, b, most, want)
			d := open(t, most)
			feed(t, d, b...)
			for _, w := range want {
				if d.Need() != 0 {
					t.Fatalf("%v, %d: Need = %d before %v", b, most, d.Need(), w)
				}
				checkNext(t, d, w)
			}
			if d.Held() != left || d.Closed() != (d.Need() == 0) {
				t.Fatalf("%v, %d: Held = %d, Closed = %t, Need = %d, want %d held", b, most, d.Held(), d.Closed(), d.Need(), left)
			}
		})
	}
}

// P6.4: what All returns has no memory of its bytes, or in common.
func TestAllSharesNothing(t *testing.T) {
	b := []byte{3, 9, 97, 98, 3, 8, 99, 100, 0, 1, 7}
	kept := slices.Clone(b)
	frames, errors, _ := decode.All(b, 2)
	again, errorsAgain, _ := decode.All(b, 2)
	if !bytes.Equal(b, kept) {
		t.Fatalf("the bytes have become %v", b)
	}
	for i := range b {
		b[i] = 255
	}
	for i, f := range frames {
		_ = append(f.Payload, 255, 255, 255)
		for k := range f.Payload {
			f.Payload[k]++
		}
		frames[i].Code, errors[i] = 0, api.ErrNil
	}
	for i, w := range []got{taken(9, "ab"), taken(8, "cd"), failed(api.ErrFormat), taken(7, "")} {
		if !same(got{again[i], errorsAgain[i]}, w) {
			t.Errorf("at %d there is %v, %d now, want %v", i, again[i], errorsAgain[i], w)
		}
	}
	if string(frames[0].Payload) != "bc" || string(frames[1].Payload) != "de" {
		t.Errorf("the payloads have become %v, %v", frames[0].Payload, frames[1].Payload)
	}
}

// split feeds bytes in pieces that end after the places whose bits are set, calls Next after each piece (at most some times), and returns what it has returned besides ErrShort, and how many bytes are held at the end.
func split(t *testing.T, b []byte, most int, places uint, times int) (list []got, left int) {
	t.Helper()
	d := open(t, most)
	start := 0
	next := func(times int) {
		for range times {
			f, e := d.Next()
			if e == api.ErrShort || e == api.ErrClosed {
				return
			}
			list = append(list, got{f, e})
		}
	}
	for end := 1; end <= len(b); end++ {
		if end < len(b) && places>>(end-1)&1 == 0 {
			continue
		}
		if e := d.Feed(b[start:end]); e != api.OK && !d.Closed() {
			t.Fatalf("%v: Feed = %d", b, e)
		}
		start = end
		next(times)
	}
	next(len(b))
	return list, d.Held()
}

// P6.5: however bytes are split, and whenever Next is called, it returns the same.
func TestSplit(t *testing.T) {
	for _, most := range []int{0, 1, 2, 130} {
		lists([]byte{0, 1, 2, 3, 128}, 5, func(b []byte) {
			want, left := stream(b, most)
			for places := range uint(1) << max(0, len(b)-1) {
				for _, times := range []int{0, 1, 2, len(b) + 1} {
					list, held := split(t, b, most, places, times)
					if held != left || !slices.EqualFunc(list, want, same) {
						t.Fatalf("%v, %d, split at %b with %d calls: %v and %d held, want %v and %d", b, most, places, times, list, held, want, left)
					}
				}
			}
		})
	}
}

// P6.5: frames that were written are taken in the same order, in pieces of each size.
func TestTakeWhatWasWritten(t *testing.T) {
	var all []got
	var b []byte
	for i, n := range []int{0, 1, 126, 127, 128, 0, 0, 300, 16382, 16383, 5, 2} {
		f := api.Frame{Code: byte(i * 23), Payload: payload(n)}
		w, e := frame.Write(f)
		if e != api.OK {
			t.Fatal(e)
		}
		all, b = append(all, got{f, e}), append(b, w...)
	}
	checkAll(t, b, 16383, all)
	checkAll(t, b, frame.MaxPayload, all)
	checkAll(t, append(slices.Clone(b), 200), 16383, all)
	for _, size := range []int{1, 2, 3, 7, 127, 128, 129, 1000, 16384, len(b)} {
		d := open(t, 16383)
		left := all
		for piece := range slices.Chunk(b, size) {
			feed(t, d, piece...)
			for d.Need() == 0 {
				checkNext(t, d, left[0])
				left = left[1:]
			}
		}
		if len(left) != 0 {
			t.Errorf("pieces of %d bytes: %d frames are missing", size, len(left))
		}
		checkState(t, d, 0, 1, false)
	}
}

// P6.5: a length of 0 before a frame is as if it were not there, but for its error; within a frame it is a byte as any other.
func TestZeroLengths(t *testing.T) {
	frames := []api.Frame{{Code: 1}, {Code: 0, Payload: []byte{0, 0}}, {Code: 3, Payload: repeat(0, 127)}, {}}
	for before := range 4 {
		var b []byte
		var want []got
		for _, f := range frames {
			w, _ := frame.Write(f)
			b = append(append(b, repeat(0, before)...), w...)
			for range before {
				want = append(want, failed(api.ErrFormat))
			}
			want = append(want, got{f, api.OK})
		}
		checkAll(t, b, 127, want)
		list, left := split(t, b, 127, ^uint(0), 1)
		if left != 0 || !slices.EqualFunc(list, want, same) {
			t.Errorf("with %d: %v, %d held", before, list, left)
		}
	}
}

// P1, P6.2, P6.4: long frames and many of them, in pieces, in time that grows as they do.
func TestLong(t *testing.T) {
	f := api.Frame{Code: 200, Payload: payload(frame.MaxPayload)}
	b, _ := frame.Write(f)
	d := open(t, frame.MaxPayload)
	for i, c := range b {
		checkNext(t, d, failed(api.ErrShort))
		feed(t, d, c)
		if i >= 3 && d.Need() != len(b)-i-1 {
			t.Fatalf("Need = %d after %d bytes of %d", d.Need(), i+1, len(b))
		}
	}
	checkNext(t, d, got{f, api.OK})
	checkState(t, d, 0, 1, false)

	feed(t, d, bytes.Repeat([]byte{2, 6, 97, 0}, 500_000)...)
	for d.Held() > 0 {
		checkNext(t, d, taken(6, "a"))
		checkNext(t, d, failed(api.ErrFormat))
	}
	frames, errors, e := decode.All(make([]byte, 1_000_000), 0)
	if len(frames) != 1_000_000 || len(errors) != 1_000_000 || e != api.OK {
		t.Errorf("All of zeros: %d, %d, %d", len(frames), len(errors), e)
	}
}

// P6.5: decoders that are fed the same say the same, whatever was done with others.
func TestAgain(t *testing.T) {
	b := []byte{3, 9, 97, 98, 0, 1, 7, 2, 6}
	want, left := stream(b, 2)
	for range 3 {
		decode.All([]byte{9, 9, 9}, 0)
		list, held := split(t, b, 2, 0b1010101, 1)
		if held != left || !slices.EqualFunc(list, want, same) {
			t.Errorf("%v, %d held, want %v, %d", list, held, want, left)
		}
	}
}
