package request_test

import (
	"bytes"
	"encoding/binary"
	"math"
	"slices"
	"strings"
	"testing"

	"tagcache/api"
	"tagcache/decode"
	"tagcache/frame"
	"tagcache/request"
)

// table is that of the chapter.
var table = []struct {
	op    api.Op
	word  string
	parts string
}{
	{api.OpSet, "set", "Key Value Tags Life"},
	{api.OpAdd, "add", "Key Value Tags Life"},
	{api.OpCAS, "cas", "Key Value Tags Life Version"},
	{api.OpGet, "get", "Key"},
	{api.OpMGet, "mget", "Keys"},
	{api.OpTouch, "touch", "Key Life"},
	{api.OpDel, "del", "Key"},
	{api.OpPurgeTag, "purge", "Tag"},
	{api.OpSoftPurge, "soft", "Tag"},
	{api.OpPurgePrefix, "prefix", "Prefix"},
	{api.OpDepAdd, "depadd", "Key Child"},
	{api.OpDepDel, "depdel", "Key Child"},
	{api.OpInvalidate, "invalidate", "Key"},
	{api.OpFlush, "flush", ""},
	{api.OpStats, "stats", ""},
}

// allParts are the parts that a command may have.
var allParts = strings.Fields("Key Keys Value Tags Life Version Tag Prefix Child")

// noOps are numbers of no Op, also such as are one of an Op in fewer bits.
var noOps = []api.Op{0, -1, -4, 16, 17, 64, 68, 255, 256, 256 + 4, 1<<16 + 4, 1<<32 + 4, math.MinInt, math.MinInt + 4, math.MaxInt}

// short are the examples of the chapter and other commands of which each byte is written down.
var short = []struct {
	c       api.Command
	code    byte
	payload []byte
}{
	{api.Command{Op: api.OpGet, Key: "a"}, 4, []byte{1, 97}},
	{api.Command{Op: api.OpSet, Key: "a", Value: []byte("xy"), Tags: []string{"t"}, Life: 300}, 1, []byte{1, 97, 2, 120, 121, 1, 1, 116, 172, 2}},
	{api.Command{Op: api.OpCAS, Key: "k", Life: api.Never, Version: 5}, 3, repeatIn([]byte{1, 107, 0, 0}, 255, 9, 1, 5)},
	{api.Command{Op: api.OpMGet, Keys: []string{"a", "bc"}}, 5, []byte{2, 1, 97, 2, 98, 99}},
	{api.Command{Op: api.OpFlush}, 14, nil},

	{api.Command{Op: api.OpSet, Key: "\x00", Life: 1}, 1, []byte{1, 0, 0, 0, 1}},
	{api.Command{Op: api.OpSet, Key: "ab", Value: []byte{0, 255}, Tags: []string{"u", "t", "u"}, Life: 127}, 1, []byte{2, 97, 98, 2, 0, 255, 3, 1, 117, 1, 116, 1, 117, 127}},
	{api.Command{Op: api.OpAdd, Key: "a", Tags: []string{"tt", "t"}, Life: 128}, 2, []byte{1, 97, 0, 2, 2, 116, 116, 1, 116, 128, 1}},
	{api.Command{Op: api.OpCAS, Key: "a", Value: []byte("x"), Tags: []string{"t"}, Life: 2, Version: 300}, 3, []byte{1, 97, 1, 120, 1, 1, 116, 2, 172, 2}},
	{api.Command{Op: api.OpCAS, Key: "a", Life: 2}, 3, []byte{1, 97, 0, 0, 2, 0}},
	{api.Command{Op: api.OpCAS, Key: "a", Life: 1, Version: math.MaxUint64}, 3, repeatIn([]byte{1, 97, 0, 0, 1}, 255, 9, 1)},
	{api.Command{Op: api.OpGet, Key: "\xff\x80"}, 4, []byte{2, 255, 128}},
	{api.Command{Op: api.OpMGet, Keys: []string{"b", "b", "a"}}, 5, []byte{3, 1, 98, 1, 98, 1, 97}},
	{api.Command{Op: api.OpTouch, Key: "a", Life: 5}, 6, []byte{1, 97, 5}},
	{api.Command{Op: api.OpTouch, Key: "a", Life: api.Never}, 6, repeatIn([]byte{1, 97}, 255, 9, 1)},
	{api.Command{Op: api.OpDel, Key: "a/b"}, 7, []byte{3, 97, 47, 98}},
	{api.Command{Op: api.OpPurgeTag, Tag: "t"}, 8, []byte{1, 116}},
	{api.Command{Op: api.OpSoftPurge, Tag: "t u"}, 9, []byte{3, 116, 32, 117}},
	{api.Command{Op: api.OpPurgePrefix}, 10, []byte{0}},
	{api.Command{Op: api.OpPurgePrefix, Prefix: "a/"}, 10, []byte{2, 97, 47}},
	{api.Command{Op: api.OpDepAdd, Key: "a", Child: "bc"}, 11, []byte{1, 97, 2, 98, 99}},
	{api.Command{Op: api.OpDepDel, Key: "a", Child: "a"}, 12, []byte{1, 97, 1, 97}},
	{api.Command{Op: api.OpInvalidate, Key: "a"}, 13, []byte{1, 97}},
	{api.Command{Op: api.OpStats}, 15, nil},
}

// repeatIn returns bytes, then a byte several times, and then others.
func repeatIn(before []byte, c byte, times int, after ...byte) []byte {
	return slices.Concat(before, bytes.Repeat([]byte{c}, times), after)
}

// has reports whether an Op has a part.
func has(op api.Op, part string) bool {
	for _, row := range table {
		if row.op == op {
			return slices.Contains(strings.Fields(row.parts), part)
		}
	}
	return false
}

// list returns a string several times.
func list(s string, times int) []string { return slices.Repeat([]string{s}, times) }

// long returns a string of some bytes.
func long(n int) string { return strings.Repeat("k", n) }

// fill gives a part of a command a value that is allowed, and not zero.
func fill(c *api.Command, part string) {
	switch part {
	case "Key":
		c.Key = "a"
	case "Keys":
		c.Keys = []string{"b", "c"}
	case "Value":
		c.Value = []byte("xyz")
	case "Tags":
		c.Tags = []string{"u", "t"}
	case "Life":
		c.Life = 9
	case "Version":
		c.Version = 8
	case "Tag":
		c.Tag = "t"
	case "Prefix":
		c.Prefix = "p/"
	case "Child":
		c.Child = "d"
	}
}

// filled returns a command with all parts of its Op, which are allowed.
func filled(op api.Op) api.Command {
	c := api.Command{Op: op}
	for _, part := range allParts {
		if has(op, part) {
			fill(&c, part)
		}
	}
	return c
}

// wantPayload returns the payload of a command after the definition, with the library's encoding of numbers, which is the same one.
func wantPayload(c api.Command) (b []byte) {
	number := func(n uint64) { b = binary.AppendUvarint(b, n) }
	text := func(s string) {
		number(uint64(len(s)))
		b = append(b, s...)
	}
	texts := func(l []string) {
		number(uint64(len(l)))
		for _, s := range l {
			text(s)
		}
	}
	for _, part := range strings.Fields(table[c.Op-1].parts) {
		switch part {
		case "Key":
			text(c.Key)
		case "Keys":
			texts(c.Keys)
		case "Value":
			text(string(c.Value))
		case "Tags":
			texts(c.Tags)
		case "Life":
			number(uint64(c.Life))
		case "Version":
			number(c.Version)
		case "Tag":
			text(c.Tag)
		case "Prefix":
			text(c.Prefix)
		case "Child":
			text(c.Child)
		}
	}
	return b
}

// same compares two commands part by part, without the package.
func same(a, b api.Command) bool {
	return a.Op == b.Op && a.Key == b.Key && slices.Equal(a.Keys, b.Keys) && string(a.Value) == string(b.Value) && slices.Equal(a.Tags, b.Tags) &&
		a.Life == b.Life && a.Version == b.Version && a.Tag == b.Tag && a.Prefix == b.Prefix && a.Child == b.Child
}

// brief returns the first bytes of a list.
func brief(b []byte) []byte { return b[:min(len(b), 20)] }

// checkGood checks a command that is valid: Valid says so, Write gives its frame, and Read gives it back.
func checkGood(t *testing.T, c api.Command, payload []byte) {
	t.Helper()
	if !request.Valid(c) {
		t.Errorf("Op %d with %d bytes %v: not valid", c.Op, len(payload), brief(payload))
	}
	f, e := request.Write(c)
	if f.Code != byte(c.Op) || !bytes.Equal(f.Payload, payload) || e != api.OK {
		t.Errorf("Write with the Op %d: code %d, %d bytes %v, %d, want %d bytes %v", c.Op, f.Code, len(f.Payload), brief(f.Payload), e, len(payload), brief(payload))
	}
	checkRead(t, api.Frame{Code: byte(c.Op), Payload: payload}, c, api.OK)
}

// checkBad checks a command that is not valid.
func checkBad(t *testing.T, what string, c api.Command) {
	t.Helper()
	if request.Valid(c) {
		t.Errorf("Op %d, %s: valid", c.Op, what)
	}
	if f, e := request.Write(c); f.Code != 0 || len(f.Payload) != 0 || e != api.ErrArg {
		t.Errorf("Op %d, %s: Write = code %d, %d bytes, %d", c.Op, what, f.Code, len(f.Payload), e)
	}
}

// checkRead compares what Read returns with what it should be.
func checkRead(t *testing.T, f api.Frame, want api.Command, e api.Errno) {
	t.Helper()
	if c, g := request.Read(f); !same(c, want) || g != e {
		t.Errorf("Read of code %d and %d bytes %v = Op %d, %d, want Op %d, %d", f.Code, len(f.Payload), brief(f.Payload), c.Op, g, want.Op, e)
	}
}

// checkNone checks a frame that is not that of a command.
func checkNone(t *testing.T, code byte, payload []byte) {
	t.Helper()
	checkRead(t, api.Frame{Code: code, Payload: payload}, api.Command{}, api.ErrFormat)
}

// limits calls a function with commands whose parts are at the ends of what is allowed, and just outside, and says whether they are valid.
func limits(f func(what string, c api.Command, valid bool)) {
	for _, row := range table {
		with := func(part, what string, valid bool, change func(c *api.Command)) {
			if has(row.op, part) {
				c := filled(row.op)
				change(&c)
				f(part+" "+what, c, valid)
			}
		}
		for _, n := range []int{0, 1, 2, 64, 65, 127, 128, 249, 250, 251, 252, 300, 65536} {
			size := long(n)
			with("Key", "of that size", n >= 1 && n <= 250, func(c *api.Command) { c.Key = size })
			with("Child", "of that size", n >= 1 && n <= 250, func(c *api.Command) { c.Child = size })
			with("Prefix", "of that size", n <= 250, func(c *api.Command) { c.Prefix = size })
			with("Tag", "of that size", n >= 1 && n <= 64, func(c *api.Command) { c.Tag = size })
			with("Keys", "with one of that size", n >= 1 && n <= 250, func(c *api.Command) { c.Keys = []string{size} })
			with("Keys", "with that size at the end", n >= 1 && n <= 250, func(c *api.Command) { c.Keys = append(list("a", 15), size) })
			with("Keys", "with that size at the front", n >= 1 && n <= 250, func(c *api.Command) { c.Keys = append([]string{size}, list("a", 15)...) })
			with("Tags", "with one of that size", n >= 1 && n <= 64, func(c *api.Command) { c.Tags = []string{size} })
			with("Tags", "with that size at the end", n >= 1 && n <= 64, func(c *api.Command) { c.Tags = append(list("a", 15), size) })
			with("Tags", "with that size at the front", n >= 1 && n <= 64, func(c *api.Command) { c.Tags = append([]string{size}, list("a", 15)...) })
		}
		for _, n := range []int{0, 1, 2, 15, 16, 17, 18, 127, 128, 300} {
			with("Keys", "so many", n >= 1 && n <= 16, func(c *api.Command) { c.Keys = list("a", n) })
			with("Keys", "so many long ones", n >= 1 && n <= 16, func(c *api.Command) { c.Keys = list(long(250), n) })
			with("Tags", "so many", n <= 16, func(c *api.Command) { c.Tags = list("t", n) })
			with("Tags", "so many long ones", n <= 16, func(c *api.Command) { c.Tags = list(long(64), n) })
		}
		for _, n := range []int{0, 1, 127, 128, 250, 251, 16383, 16384, 65535, 65536, 65537, 65538, 70000, frame.MaxPayload + 1} {
			with("Value", "of that size", n <= 65536, func(c *api.Command) { c.Value = []byte(long(n)) })
		}
		for _, n := range []uint64{0, 1, 127, 128, 1 << 32, 1 << 40, math.MaxInt64, 1 << 63, math.MaxUint64 - 1, math.MaxUint64} {
			with("Life", "of that size", n != 0, func(c *api.Command) { c.Life = api.Time(n) })
			with("Version", "of that size", true, func(c *api.Command) { c.Version = n })
		}
	}
}

// P7.1, P7.3, P7.4: the examples of the chapter, and at least one command for each Op.
func TestShort(t *testing.T) {
	for _, x := range short {
		if byte(x.c.Op) != x.code {
			t.Errorf("Op %d has the code %d", x.c.Op, x.code)
		}
		checkGood(t, x.c, x.payload)
		if !bytes.Equal(wantPayload(x.c), x.payload) {
			t.Errorf("the payload after the definition is %v, not %v", wantPayload(x.c), x.payload)
		}
	}
	if request.MaxKeys != 16 {
		t.Errorf("MaxKeys = %d", request.MaxKeys)
	}
}

// P7.1, P7.3: what the chapter names as not valid, and an Op with nothing else.
func TestNotValid(t *testing.T) {
	checkBad(t, "the empty key", api.Command{Op: api.OpGet})
	checkBad(t, "Life 0", api.Command{Op: api.OpSet, Key: "a", Value: []byte("x"), Tags: []string{"t"}})
	checkBad(t, "a Tag", api.Command{Op: api.OpGet, Key: "a", Tag: "t"})
	for _, row := range table {
		if row.parts != "" && row.parts != "Prefix" {
			checkBad(t, "nothing else", api.Command{Op: row.op})
		}
	}
}

// P7.1, P7.3: numbers of no Op, without and with parts.
func TestUnknownOps(t *testing.T) {
	for _, op := range noOps {
		checkBad(t, "unknown", api.Command{Op: op})
		for _, row := range table {
			c := filled(row.op)
			c.Op = op
			checkBad(t, "unknown, with the parts of "+row.word, c)
		}
	}
}

// P7.1, P7.3, P7.4: each part is allowed for the Ops that have it, and for no others; lists without elements are no parts.
func TestParts(t *testing.T) {
	for _, row := range table {
		whole := filled(row.op)
		checkGood(t, whole, wantPayload(whole))
		whole.Keys = append([]string{}, whole.Keys...)
		whole.Tags = append([]string{}, whole.Tags...)
		whole.Value = append([]byte{}, whole.Value...)
		checkGood(t, whole, wantPayload(whole))
		for _, part := range allParts {
			c := filled(row.op)
			fill(&c, part)
			if has(row.op, part) {
				checkGood(t, c, wantPayload(c))
			} else {
				checkBad(t, "with "+part, c)
			}
		}
	}
}

// P7.1, P7.3: a part that an Op does not have is wrong, also if it would not be allowed for any other.
func TestOtherParts(t *testing.T) {
	for _, row := range table {
		for _, part := range allParts {
			c := filled(row.op)
			switch part {
			case "Key":
				c.Key = long(251)
			case "Keys":
				c.Keys = []string{""}
			case "Value":
				c.Value = make([]byte, 65537)
			case "Tags":
				c.Tags = []string{""}
			case "Life":
				c.Life = api.Never
			case "Version":
				c.Version = math.MaxUint64
			case "Tag":
				c.Tag = long(65)
			case "Prefix":
				c.Prefix = long(251)
			case "Child":
				c.Child = long(251)
			}
			if (part == "Life" || part == "Version") && has(row.op, part) {
				checkGood(t, c, wantPayload(c))
			} else {
				checkBad(t, "with another "+part, c)
			}
		}
	}
}

// P7.1, P7.3: a part that an Op does not have is wrong with a single byte, also if this is 0.
func TestShortOtherParts(t *testing.T) {
	for _, row := range table {
		for _, s := range []string{"\x00", "a"} {
			for part, change := range map[string]func(c *api.Command){
				"Key":     func(c *api.Command) { c.Key = s },
				"Keys":    func(c *api.Command) { c.Keys = []string{s} },
				"Value":   func(c *api.Command) { c.Value = []byte(s) },
				"Tags":    func(c *api.Command) { c.Tags = []string{s} },
				"Life":    func(c *api.Command) { c.Life = 1 },
				"Version": func(c *api.Command) { c.Version = 1 },
				"Tag":     func(c *api.Command) { c.Tag = s },
				"Prefix":  func(c *api.Command) { c.Prefix = s },
				"Child":   func(c *api.Command) { c.Child = s },
			} {
				c := filled(row.op)
				change(&c)
				if has(row.op, part) {
					checkGood(t, c, wantPayload(c))
				} else {
					checkBad(t, "with one byte of "+part, c)
				}
			}
		}
	}
}

// P7.1, P7.3, P7.4: the ends of what each part may be, and what is just outside, also in a frame.
func TestLimits(t *testing.T) {
	limits(func(what string, c api.Command, valid bool) {
		if valid {
			checkGood(t, c, wantPayload(c))
			return
		}
		checkBad(t, what, c)
		checkNone(t, byte(c.Op), wantPayload(c))
	})
}

// P7.1: commands that are equal, and such as differ in one part.
func TestEqual(t *testing.T) {
	all := api.Command{Op: api.OpSet, Key: "a", Keys: []string{"b", "c"}, Value: []byte("xy"), Tags: []string{"t", "u"}, Life: 7, Version: 8, Tag: "v", Prefix: "p", Child: "d"}
	check := func(what string, c api.Command) {
		t.Helper()
		if request.Equal(all, c) || request.Equal(c, all) {
			t.Errorf("equal with another %s", what)
		}
		if !request.Equal(c, c) {
			t.Errorf("with another %s not equal to itself", what)
		}
	}
	for _, op := range []api.Op{0, 2, -1, math.MaxInt, 1 + 1<<32} {
		c := all
		c.Op = op
		check("Op", c)
	}
	for _, s := range []string{"", "A", "aa", "\x00", "b", "a\x00", long(300)} {
		c := all
		c.Key = s
		check("Key", c)
		c = all
		c.Tag = s
		check("Tag", c)
		c = all
		c.Prefix = s
		check("Prefix", c)
		c = all
		c.Child = s
		check("Child", c)
	}
	for _, l := range [][]string{nil, {}, {"b"}, {"t"}, {"b", ""}, {"t", ""}, {"c", "b"}, {"u", "t"}, {"b", "b"}, {"t", "t"}, {"b", "c", "c"}, {"t", "u", "u"}, {"b", "c", ""}, {"t", "u", ""}, {"bc", ""}, {"tu"}, {"bc"}} {
		c := all
		c.Keys = l
		check("Keys", c)
		c = all
		c.Tags = l
		check("Tags", c)
	}
	for _, v := range [][]byte{nil, {}, []byte("x"), []byte("xx"), []byte("yx"), []byte("xyz"), []byte("xy\x00"), []byte("XY")} {
		c := all
		c.Value = v
		check("Value", c)
	}
	for _, n := range []uint64{0, 1, 9, 7 + 1<<32, 8 + 1<<32, 7 + 1<<63, 8 + 1<<63, math.MaxUint64} {
		c := all
		c.Life = api.Time(n)
		check("Life", c)
		c = all
		c.Version = n
		check("Version", c)
	}
}

// P7.1: none and no elements are equal, and so are copies, valid or not.
func TestEqualCopies(t *testing.T) {
	if !request.Equal(api.Command{}, api.Command{Keys: []string{}, Value: []byte{}, Tags: []string{}}) || !request.Equal(api.Command{Keys: []string{}, Value: []byte{}, Tags: []string{}}, api.Command{}) {
		t.Error("none and no elements are not equal")
	}
	var all []api.Command
	for _, row := range table {
		all = append(all, filled(row.op))
	}
	for _, op := range noOps {
		c := filled(api.OpCAS)
		c.Op, c.Tag, c.Keys, c.Tags = op, long(99), list("", 99), list(long(99), 99)
		all = append(all, c)
	}
	for i, a := range all {
		for j, b := range all {
			b.Keys, b.Value, b.Tags = slices.Clone(b.Keys), slices.Clone(b.Value), slices.Clone(b.Tags)
			if request.Equal(a, b) != (i == j) {
				t.Errorf("Equal of %v and %v is not %t", a, b, i == j)
			}
		}
	}
}

// P7.2, P7.5: the word of each Op, and the Op of each word.
func TestWords(t *testing.T) {
	for _, row := range table {
		if w, e := request.Word(row.op); w != row.word || e != api.OK {
			t.Errorf("Word(%d) = %q, %d, want %q", row.op, w, e, row.word)
		}
		if op, e := request.Op(row.word); op != row.op || e != api.OK {
			t.Errorf("Op(%q) = %d, %d, want %d", row.word, op, e, row.op)
		}
	}
}

// P7.2: numbers that are no Ops, and strings that are no words.
func TestNoWords(t *testing.T) {
	for _, op := range noOps {
		if w, e := request.Word(op); w != "" || e != api.ErrArg {
			t.Errorf("Word(%d) = %q, %d", op, w, e)
		}
	}
	no := []string{"", " ", "\x00", "Get", "GET", "gett", "ge", "multiget", "purgetag", "softpurge", "purgeprefix", "depends", "dep", "1", "4", "OpGet", long(1 << 20)}
	for _, row := range table {
		w := row.word
		no = append(no, strings.ToUpper(w), strings.ToUpper(w[:1])+w[1:], w+" ", " "+w, w+"\n", w+"\x00", w+w, w+"x", "x"+w, w[1:], w[:len(w)-1])
	}
	for _, w := range no {
		if slices.Contains(words(), w) {
			continue // get is the end of mget
		}
		if op, e := request.Op(w); op != 0 || e != api.ErrFormat {
			t.Errorf("Op(%q) = %d, %d", w[:min(len(w), 20)], op, e)
		}
	}
}

// words returns the words of the table.
func words() (l []string) {
	for _, row := range table {
		l = append(l, row.word)
	}
	return l
}

// wantRead reads a payload after the definition: what is cut from it, without looking whether it is allowed, must be a command that gives just these bytes.
func wantRead(code byte, b []byte) (api.Command, api.Errno) {
	if code < 1 || code > 15 {
		return api.Command{}, api.ErrFormat
	}
	all, whole := b, true
	number := func() uint64 {
		n, size := binary.Uvarint(b)
		whole = whole && size > 0
		b = b[max(0, size):]
		return n
	}
	text := func() string {
		n := number()
		if n > uint64(len(b)) {
			whole = false
			return ""
		}
		s := string(b[:n])
		b = b[n:]
		return s
	}
	texts := func() (l []string) {
		for n := number(); n > 0 && whole; n-- {
			l = append(l, text())
		}
		return l
	}
	c := api.Command{Op: api.Op(code)}
	for _, part := range strings.Fields(table[code-1].parts) {
		switch part {
		case "Key":
			c.Key = text()
		case "Keys":
			c.Keys = texts()
		case "Value":
			c.Value = []byte(text())
		case "Tags":
			c.Tags = texts()
		case "Life":
			c.Life = api.Time(number())
		case "Version":
			c.Version = number()
		case "Tag":
			c.Tag = text()
		case "Prefix":
			c.Prefix = text()
		case "Child":
			c.Child = text()
		}
	}
	if !whole || !bytes.Equal(wantPayload(c), all) || !wantValid(c) {
		return api.Command{}, api.ErrFormat
	}
	return c, api.OK
}

// wantValid reports whether the parts of a command are allowed that are those of its Op.
func wantValid(c api.Command) bool {
	texts := func(part string, least, most int, l ...string) bool {
		for _, s := range l {
			if has(c.Op, part) && (len(s) < least || len(s) > most) {
				return false
			}
		}
		return true
	}
	return texts("Key", 1, 250, c.Key) && texts("Child", 1, 250, c.Child) && texts("Prefix", 0, 250, c.Prefix) && texts("Tag", 1, 64, c.Tag) &&
		texts("Keys", 1, 250, c.Keys...) && texts("Tags", 1, 64, c.Tags...) && texts("Value", 0, 65536, string(c.Value)) &&
		len(c.Tags) <= 16 && (!has(c.Op, "Keys") || len(c.Keys) >= 1 && len(c.Keys) <= 16) && (!has(c.Op, "Life") || c.Life != 0)
}

// P7.4: frames of no command that the chapter names.
func TestReadExamples(t *testing.T) {
	checkNone(t, 4, []byte{1, 97, 0})
	checkNone(t, 0, nil)
	checkNone(t, 6, []byte{1, 97, 0})
	checkNone(t, 5, []byte{0})
}

// P7.4: frames of no command: parts that are not allowed, not whole, or not there.
func TestReadErrors(t *testing.T) {
	for _, x := range []struct {
		code    byte
		payload []byte
	}{
		{4, nil}, {4, []byte{0}}, {4, []byte{1}}, {4, []byte{2, 97}}, {4, []byte{97}}, {4, []byte{0, 97}}, {4, []byte{1, 97, 98}}, {4, []byte{1, 97, 1, 97}}, {4, []byte{128}},
		{5, nil}, {5, []byte{0}}, {5, []byte{1}}, {5, []byte{1, 0}}, {5, []byte{0, 1, 97}}, {5, []byte{1, 1}}, {5, []byte{2, 1, 97}}, {5, []byte{1, 1, 97, 1, 97}}, {5, []byte{2, 1, 97, 0}}, {5, []byte{1, 97}},
		{5, append([]byte{17}, bytes.Repeat([]byte{1, 97}, 17)...)}, {5, append([]byte{17}, bytes.Repeat([]byte{1, 97}, 16)...)}, {5, append([]byte{16}, bytes.Repeat([]byte{1, 97}, 17)...)},
		{6, []byte{1, 97}}, {6, []byte{1, 97, 0}}, {6, []byte{1, 97, 128}}, {6, []byte{0, 1}}, {6, []byte{1, 97, 1, 1}}, {6, []byte{5, 1, 97}},
		{8, nil}, {8, []byte{0}}, {8, []byte{1, 116, 0}}, {9, []byte{0}}, {9, []byte{2, 116}},
		{10, nil}, {10, []byte{1}}, {10, []byte{0, 0}}, {10, []byte{1, 97, 0}},
		{11, []byte{1, 97}}, {11, []byte{1, 97, 0}}, {11, []byte{0, 1, 97}}, {11, []byte{1, 97, 1, 97, 0}}, {12, []byte{1, 97, 0}}, {12, []byte{0, 0}},
		{14, []byte{0}}, {14, []byte{1, 97}}, {15, []byte{0}}, {15, []byte{128}},
		{1, []byte{1, 97, 0, 0, 0}}, {1, []byte{1, 97, 0, 0}}, {1, []byte{1, 97, 0, 1}}, {1, []byte{0, 0, 0, 1}}, {1, []byte{1, 97, 0, 1, 0, 1}}, {1, []byte{1, 97, 0, 0, 1, 0}}, {1, []byte{1, 97, 0, 0, 1, 1}}, {1, []byte{1, 97, 1, 0, 1}},
		{2, []byte{1, 97, 0, 0, 0}}, {2, []byte{1, 97, 0, 0, 1, 5}}, {3, []byte{1, 97, 0, 0, 1}}, {3, []byte{1, 97, 0, 0, 0, 1}}, {3, []byte{1, 97, 0, 0, 1, 1, 1}}, {3, []byte{1, 97, 0, 0, 1, 128}},
	} {
		checkNone(t, x.code, x.payload)
	}
}

// P7.4: each code; those of no Op have no payload that is right.
func TestReadCodes(t *testing.T) {
	payloads := [][]byte{nil, {}, {0}, {1}, {1, 97, 2, 3, 4, 5, 6, 7}}
	for _, x := range short {
		payloads = append(payloads, x.payload)
	}
	for code := range 256 {
		for _, p := range payloads {
			c, e := wantRead(byte(code), p)
			checkRead(t, api.Frame{Code: byte(code), Payload: p}, c, e)
			if code == 0 || code > 15 {
				checkNone(t, byte(code), p)
			}
		}
	}
}

// P7.4, P7.5: all payloads of at most some of a few bytes, for each code, after the definition; and what was read is written with just the bytes that were there.
func TestReadOfFewBytes(t *testing.T) {
	read := 0
	check := func(code byte, b []byte) {
		want, e := wantRead(code, b)
		f := api.Frame{Code: code, Payload: b}
		checkRead(t, f, want, e)
		if e != api.OK {
			return
		}
		read++
		c, _ := request.Read(f)
		if again, e := request.Write(c); !frame.Equal(again, f) || e != api.OK || !request.Valid(c) {
			t.Errorf("Read of code %d and %v is written as %v, %d", code, b, again, e)
		}
	}
	var longer func(code byte, b []byte, few []byte, most int)
	longer = func(code byte, b, few []byte, most int) {
		check(code, b)
		for _, c := range few {
			if len(b) < most {
				longer(code, append(slices.Clone(b), c), few, most)
			}
		}
	}
	for code := range byte(17) {
		longer(code, nil, []byte{0, 1, 2, 3, 128}, 5)
		longer(code, nil, []byte{0, 1, 17, 255}, 6)
	}
	for code := range byte(4) {
		longer(code, []byte{1, 97}, []byte{0, 1, 2, 128, 129}, 7)
		longer(code, []byte{1, 97, 1, 120}, []byte{0, 1, 2, 128}, 9)
		longer(code, []byte{1, 97, 0, 2, 1, 116, 1}, []byte{0, 1, 116, 128}, 11)
	}
	if read < 1000 {
		t.Errorf("only %d of them are commands", read)
	}
}

// P7.4: a payload that is cut off anywhere, or to which anything was added, is not the one of a command any more.
func TestReadCutOrLonger(t *testing.T) {
	commands := []api.Command{}
	for _, row := range table {
		commands = append(commands, filled(row.op))
	}
	for _, x := range short {
		commands = append(commands, x.c)
	}
	commands = append(commands,
		api.Command{Op: api.OpSet, Key: long(250), Value: []byte(long(300)), Tags: list(long(64), 16), Life: api.Never},
		api.Command{Op: api.OpMGet, Keys: list(long(250), 16)})
	for _, c := range commands {
		b := wantPayload(c)
		for i := range b {
			checkNone(t, byte(c.Op), b[:i])
		}
		for _, more := range [][]byte{{0}, {1}, {97}, {128}, {255}, {1, 97}, {0, 0}, make([]byte, 300)} {
			checkNone(t, byte(c.Op), slices.Concat(b, more))
		}
	}
}

// P7.4: numbers that are no encoding of layer 4, in each place where there is a number.
func TestReadNoNumbers(t *testing.T) {
	bad := [][]byte{{128, 0}, {129, 0}, {129, 128, 0}, {130, 0}, repeatIn(nil, 255, 9, 2), repeatIn(nil, 255, 10, 1), repeatIn(nil, 128, 9, 0), repeatIn(nil, 128, 20)}
	for _, n := range bad {
		for _, after := range [][]byte{nil, {97}, {1, 97}, {97, 1, 97}, {97, 98, 0, 0, 1, 1}} {
			for code := byte(1); code <= 15; code++ {
				checkNone(t, code, slices.Concat(n, after))
			}
			for _, before := range [][]byte{{1, 97}, {1, 97, 0}, {1, 97, 0, 0}, {1, 97, 0, 1}, {1, 97, 0, 2, 1, 116}} {
				for code := byte(1); code <= 3; code++ {
					checkNone(t, code, slices.Concat(before, n, after))
				}
			}
			checkNone(t, 3, slices.Concat([]byte{1, 97, 0, 0, 1}, n, after))
			checkNone(t, 5, slices.Concat([]byte{1}, n, after))
			checkNone(t, 5, slices.Concat([]byte{2, 1, 97}, n, after))
			for _, code := range []byte{6, 11, 12} {
				checkNone(t, code, slices.Concat([]byte{1, 97}, n, after))
			}
		}
	}
}

// P1, P7.4: lengths and counts that are as great as numbers may be, and payloads that are longer than those of frames.
func TestReadGreatNumbers(t *testing.T) {
	for _, n := range []uint64{16, 17, 251, 65537, 1 << 16, 1 << 31, 1<<31 + 1, 1 << 32, 1<<32 + 1, math.MaxInt64, 1 << 63, 1<<63 + 1, math.MaxUint64} {
		b := binary.AppendUvarint(nil, n)
		for _, after := range [][]byte{nil, {97}, {1, 97}, make([]byte, 300)} {
			for code := byte(1); code <= 15; code++ {
				checkNone(t, code, slices.Concat(b, after))
				checkNone(t, code, slices.Concat([]byte{1, 97}, b, after, []byte{128}))
				checkNone(t, code, slices.Concat([]byte{1, 97, 0}, b, after, []byte{128}))
			}
		}
	}
	for code := range 256 {
		checkNone(t, byte(code), make([]byte, frame.MaxPayload+1))
		checkNone(t, byte(code), bytes.Repeat([]byte{1}, frame.MaxPayload))
	}
}

// P7.5: Read inverts Write, and Write inverts Read; also through the bytes of frames.
func TestInverse(t *testing.T) {
	check := func(c api.Command) {
		f, e := request.Write(c)
		b, g := frame.Write(f)
		if e != api.OK || g != api.OK {
			t.Fatalf("Write with the Op %d: %d, %d", c.Op, e, g)
		}
		f, _, _ = frame.Read(b, frame.MaxPayload)
		again, e := request.Read(f)
		if !same(again, c) || !request.Equal(again, c) || e != api.OK {
			t.Errorf("Op %d is read as Op %d, %d", c.Op, again.Op, e)
		}
		if f2, e := request.Write(again); !frame.Equal(f2, f) || e != api.OK {
			t.Errorf("Op %d is written another time as %d bytes, %d, not as %d", c.Op, len(f2.Payload), e, len(f.Payload))
		}
	}
	for _, x := range short {
		check(x.c)
	}
	limits(func(_ string, c api.Command, valid bool) {
		if valid {
			check(c)
		}
	})
	for i := range 256 {
		s := string([]byte{byte(i)})
		for _, row := range table {
			c := api.Command{Op: row.op}
			for _, part := range strings.Fields(row.parts) {
				fill(&c, part)
				switch part {
				case "Key":
					c.Key = s + "k"
				case "Child":
					c.Child = s
				case "Keys":
					c.Keys = []string{s, "/" + s}
				case "Tag":
					c.Tag = s
				case "Prefix":
					c.Prefix = s
				case "Tags":
					c.Tags = list(s, i%17)
				case "Value":
					c.Value = bytes.Repeat([]byte(s), i)
				}
			}
			check(c)
		}
	}
}

// P7.5: different commands have different frames.
func TestDifferentFrames(t *testing.T) {
	of := map[string]api.Command{}
	add := func(c api.Command) {
		f, e := request.Write(c)
		b, g := frame.Write(f)
		if e != api.OK || g != api.OK {
			t.Fatalf("Write with the Op %d: %d, %d", c.Op, e, g)
		}
		if other, met := of[string(b)]; met && !same(other, c) {
			t.Errorf("the Ops %d and %d have the same frame", other.Op, c.Op)
		}
		of[string(b)] = c
	}
	limits(func(_ string, c api.Command, valid bool) {
		if valid {
			add(c)
		}
	})
	for _, x := range short {
		add(x.c)
	}
}

// P0.4, P7.5: commands that were sent one after the other are the same ones, however the bytes are split.
func TestThroughDecoder(t *testing.T) {
	var b []byte
	for _, x := range short {
		f, _ := request.Write(x.c)
		w, _ := frame.Write(f)
		b = append(b, w...)
	}
	for size := 1; size <= len(b); size++ {
		d, _ := decode.New(300)
		var got []api.Command
		for chunk := range slices.Chunk(b, size) {
			d.Feed(chunk)
			for f, e := d.Next(); e != api.ErrShort; f, e = d.Next() {
				c, g := request.Read(f)
				if e != api.OK || g != api.OK {
					t.Fatalf("in pieces of %d: Next %d, Read %d", size, e, g)
				}
				got = append(got, c)
			}
		}
		if len(got) != len(short) {
			t.Fatalf("in pieces of %d: %d commands, want %d", size, len(got), len(short))
		}
		for i, c := range got {
			if !same(c, short[i].c) {
				t.Errorf("in pieces of %d: at %d %v", size, i, c)
			}
		}
	}
}

// P7.5: what is written has no bytes in common with the command, nor has what is written twice.
func TestWriteSharesNothing(t *testing.T) {
	value := []byte("0123456789")
	tags := []string{"t", "u", "v"}
	keys := []string{"a", "b", "c"}
	c := api.Command{Op: api.OpSet, Key: "a", Value: value[2:5], Tags: tags[:2], Life: 7}
	m := api.Command{Op: api.OpMGet, Keys: keys[:2]}
	for _, x := range []api.Command{c, m} {
		one, _ := request.Write(x)
		two, _ := request.Write(x)
		_ = append(one.Payload, 99, 99)
		for i := range one.Payload {
			one.Payload[i] = 99
		}
		if !bytes.Equal(two.Payload, wantPayload(x)) {
			t.Errorf("what was written has become %v", two.Payload)
		}
	}
	if string(value) != "0123456789" || !slices.Equal(tags, []string{"t", "u", "v"}) || !slices.Equal(keys, []string{"a", "b", "c"}) {
		t.Errorf("the commands have become %s, %v, %v", value, tags, keys)
	}
	f, _ := request.Write(c)
	want := wantPayload(c)
	clear(value)
	clear(tags)
	if !bytes.Equal(f.Payload, want) {
		t.Errorf("what was written has become %v", f.Payload)
	}
}

// P7.5: what is read has no bytes in common with the frame, nor has what is read twice.
func TestReadSharesNothing(t *testing.T) {
	c := api.Command{Op: api.OpCAS, Key: "a", Value: []byte("xyz"), Tags: []string{"t", "u"}, Life: 7, Version: 8}
	m := api.Command{Op: api.OpMGet, Keys: []string{"a", "bc"}}
	for _, x := range []api.Command{c, m} {
		f := api.Frame{Code: byte(x.Op), Payload: append(wantPayload(x), 1, 2, 3)[:len(wantPayload(x))]}
		kept := slices.Clone(f.Payload[:len(f.Payload)+3])
		one, _ := request.Read(f)
		two, _ := request.Read(f)
		for i := range one.Value {
			one.Value[i] = 0
		}
		_, _, _ = append(one.Value, 9, 9), append(one.Keys, "x"), append(one.Tags, "x")
		clear(one.Keys)
		clear(one.Tags)
		if !same(two, x) || !bytes.Equal(f.Payload[:len(f.Payload)+3], kept) {
			t.Errorf("the other one has become %v, and the payload %v", two, f.Payload)
		}
		clear(f.Payload)
		if !same(two, x) {
			t.Errorf("what was read has become %v", two)
		}
	}
}

// P7.5: questions leave their arguments as they are, and equal calls have equal results.
func TestNothingIsChanged(t *testing.T) {
	tags, keys, value := []string{"u", "t", "u"}, []string{"b", "a"}, []byte("xy")
	set := api.Command{Op: api.OpSet, Key: "a", Value: value, Tags: tags, Life: 7}
	get := api.Command{Op: api.OpMGet, Keys: keys}
	for range 3 {
		if !request.Valid(set) || !request.Valid(get) || !request.Equal(set, set) || !request.Equal(get, get) || request.Equal(set, get) {
			t.Error("another result")
		}
	}
	if !slices.Equal(tags, []string{"u", "t", "u"}) || !slices.Equal(keys, []string{"b", "a"}) || string(value) != "xy" {
		t.Errorf("the commands have become %v, %v, %s", tags, keys, value)
	}
}

// P1: long lists come to an end.
func TestLong(t *testing.T) {
	many, value := list("a", 1<<20), make([]byte, 1<<22)
	for _, row := range table {
		c := api.Command{Op: row.op, Key: long(1 << 20), Keys: many, Value: value, Tags: many, Tag: long(1 << 20), Prefix: long(1 << 20), Child: long(1 << 20)}
		checkBad(t, "everything is too long", c)
		other := c
		other.Tags = append(list("a", 1<<20-1), "b")
		if !request.Equal(c, c) || request.Equal(c, other) {
			t.Error("long lists are not equal, or others are")
		}
		c = filled(row.op)
		c.Keys = many
		checkBad(t, "many keys", c)
		c = filled(row.op)
		c.Tags = many
		checkBad(t, "many tags", c)
	}
}
