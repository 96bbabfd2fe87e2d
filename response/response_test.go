package response_test

import (
	"bytes"
	"encoding/binary"
	"math"
	"slices"
	"strconv"
	"strings"
	"testing"

	"tagcache/api"
	"tagcache/decode"
	"tagcache/frame"
	"tagcache/request"
	"tagcache/response"
)

// table is that of the chapter, with the Op 0, which has no parts. Item is the one item of a Get.
var table = []struct {
	op    api.Op
	parts string
}{
	{0, ""},
	{api.OpSet, "Version Count"},
	{api.OpAdd, "Version Count"},
	{api.OpCAS, "Version Count"},
	{api.OpGet, "Item"},
	{api.OpMGet, "Items"},
	{api.OpTouch, "Count"},
	{api.OpDel, "Count"},
	{api.OpPurgeTag, "Count"},
	{api.OpSoftPurge, "Count"},
	{api.OpPurgePrefix, "Count"},
	{api.OpDepAdd, "Count"},
	{api.OpDepDel, "Count"},
	{api.OpInvalidate, "Count"},
	{api.OpFlush, "Count"},
	{api.OpStats, "Numbers"},
}

// noOps are numbers that are neither 0 nor of an Op, also such as are one in fewer bits.
var noOps = []api.Op{-1, -4, -64, 16, 17, 64, 68, 79, 255, 256, 256 + 4, 1<<16 + 4, 1<<32 + 4, 1 << 32, math.MinInt, math.MinInt + 4, math.MaxInt}

// noErrs are numbers that no error of a response has.
var noErrs = []api.Errno{-1, -2, -100000, 100001, 100002, 131072, 1 << 20, 1 << 32, 1<<32 + 1, 1<<40 + 5, math.MinInt, math.MinInt + 1, math.MaxInt}

// noMarks are numbers that are no marks.
var noMarks = []api.Mark{-1, -2, 3, 4, 127, 128, 255, 256, 257, 1 << 32, 1<<32 + 1, 1<<32 + 2, math.MinInt, math.MinInt + 1, math.MaxInt}

// hit is a fresh item of which each part takes just one byte, and old a stale one.
var (
	hit = api.Item{Mark: api.Fresh, Value: []byte("x"), Version: 7, Deadline: 9}
	old = api.Item{Mark: api.Stale, Value: []byte("yz"), Version: 1, Deadline: 5}
)

// short are the examples of the chapter and other responses of which each byte is written down.
var short = []struct {
	r       api.Response
	code    byte
	payload []byte
}{
	{api.Response{Op: api.OpSet, Version: 300, Count: 2}, 65, []byte{0, 172, 2, 2}},
	{api.Response{Op: api.OpGet, Err: api.ErrArg}, 68, []byte{2}},
	{one(api.Item{Mark: api.Fresh, Value: []byte("x"), Version: 7, Deadline: api.Never}), 68, repeatIn([]byte{0, 1, 7}, 255, 9, 1, 1, 120)},
	{some(api.Item{}, api.Item{Mark: api.Stale, Version: 1, Deadline: 5}), 69, []byte{0, 2, 0, 2, 1, 5, 0}},
	{api.Response{Op: api.OpStats, Numbers: []uint64{1, 200}}, 79, []byte{0, 2, 1, 200, 1}},
	{api.Response{Err: api.ErrFormat}, 64, []byte{6}},

	{api.Response{Op: api.OpSet}, 65, []byte{0, 0, 0}},
	{api.Response{Op: api.OpSet, Version: 1}, 65, []byte{0, 1, 0}},
	{api.Response{Op: api.OpSet, Count: 1}, 65, []byte{0, 0, 1}},
	{api.Response{Op: api.OpAdd, Version: 5, Count: 6}, 66, []byte{0, 5, 6}},
	{api.Response{Op: api.OpAdd, Version: 127, Count: 128}, 66, []byte{0, 127, 128, 1}},
	{api.Response{Op: api.OpCAS, Version: math.MaxUint64, Count: 1 << 40}, 67, slices.Concat(repeatIn([]byte{0}, 255, 9, 1), repeatIn(nil, 128, 5, 32))},
	{api.Response{Op: api.OpCAS, Err: api.ErrCheck}, 67, []byte{10}},
	{one(api.Item{}), 68, []byte{0, 0}},
	{one(hit), 68, []byte{0, 1, 7, 9, 1, 120}},
	{one(old), 68, []byte{0, 2, 1, 5, 2, 121, 122}},
	{one(api.Item{Mark: api.Fresh}), 68, []byte{0, 1, 0, 0, 0}},
	{one(api.Item{Mark: api.Stale}), 68, []byte{0, 2, 0, 0, 0}},
	{one(api.Item{Mark: api.Fresh, Value: []byte{0, 255}}), 68, []byte{0, 1, 0, 0, 2, 0, 255}},
	{one(api.Item{Mark: api.Fresh, Version: 300}), 68, []byte{0, 1, 172, 2, 0, 0}},
	{one(api.Item{Mark: api.Fresh, Deadline: 300}), 68, []byte{0, 1, 0, 172, 2, 0}},
	{some(api.Item{}), 69, []byte{0, 1, 0}},
	{some(hit), 69, []byte{0, 1, 1, 7, 9, 1, 120}},
	{some(old, api.Item{}, hit), 69, []byte{0, 3, 2, 1, 5, 2, 121, 122, 0, 1, 7, 9, 1, 120}},
	{some(make([]api.Item, 16)...), 69, repeatIn([]byte{0, 16}, 0, 16)},
	{api.Response{Op: api.OpMGet, Err: 128}, 69, []byte{128, 1}},
	{api.Response{Op: api.OpTouch, Count: 1}, 70, []byte{0, 1}},
	{api.Response{Op: api.OpTouch, Err: api.ErrNone}, 70, []byte{9}},
	{api.Response{Op: api.OpDel}, 71, []byte{0, 0}},
	{api.Response{Op: api.OpPurgeTag, Count: 127}, 72, []byte{0, 127}},
	{api.Response{Op: api.OpSoftPurge, Count: 128}, 73, []byte{0, 128, 1}},
	{api.Response{Op: api.OpPurgePrefix, Count: 300}, 74, []byte{0, 172, 2}},
	{api.Response{Op: api.OpDepAdd, Count: 2}, 75, []byte{0, 2}},
	{api.Response{Op: api.OpDepAdd, Err: api.ErrCycle}, 75, []byte{13}},
	{api.Response{Op: api.OpDepDel, Count: 3}, 76, []byte{0, 3}},
	{api.Response{Op: api.OpInvalidate, Count: 4}, 77, []byte{0, 4}},
	{api.Response{Op: api.OpFlush, Count: 5}, 78, []byte{0, 5}},
	{api.Response{Op: api.OpStats}, 79, []byte{0, 0}},
	{api.Response{Op: api.OpStats, Numbers: []uint64{0}}, 79, []byte{0, 1, 0}},
	{api.Response{Op: api.OpStats, Numbers: []uint64{math.MaxUint64, 0, 3}}, 79, slices.Concat(repeatIn([]byte{0, 3}, 255, 9, 1), []byte{0, 3})},
	{api.Response{Op: api.OpStats, Numbers: make([]uint64, 64)}, 79, repeatIn([]byte{0, 64}, 0, 64)},
	{api.Response{Op: api.OpStats, Err: 100000}, 79, []byte{160, 141, 6}},
	{api.Response{Err: 1}, 64, []byte{1}},
	{api.Response{Err: 100000}, 64, []byte{160, 141, 6}},
}

// one returns the response to a Get.
func one(i api.Item) api.Response { return api.Response{Op: api.OpGet, Items: []api.Item{i}} }

// some returns the response to a MGet.
func some(l ...api.Item) api.Response { return api.Response{Op: api.OpMGet, Items: l} }

// repeatIn returns bytes, then a byte several times, and then others.
func repeatIn(before []byte, c byte, times int, after ...byte) []byte {
	return slices.Concat(before, bytes.Repeat([]byte{c}, times), after)
}

// has reports whether an Op has a part.
func has(op api.Op, part string) bool {
	return op >= 0 && int(op) < len(table) && slices.Contains(strings.Fields(table[op].parts), part)
}

// filled returns a response with all parts of its Op, which are allowed and not zero; for the Op 0 one with an error.
func filled(op api.Op) api.Response {
	r := api.Response{Op: op}
	switch {
	case op == 0:
		r.Err = api.ErrFormat
	case has(op, "Item"):
		r.Items = []api.Item{old}
	case has(op, "Items"):
		r.Items = []api.Item{hit, {}, old}
	case has(op, "Numbers"):
		r.Numbers = []uint64{3, 300, 0}
	case has(op, "Count"):
		r.Count = 5
	}
	if has(op, "Version") {
		r.Version = 300
	}
	return r
}

// wantPayload returns the payload of a response after the definition, with the library's encoding of numbers, which is the same one.
func wantPayload(r api.Response) []byte {
	b := binary.AppendUvarint(nil, uint64(r.Err))
	if r.Err != api.OK {
		return b
	}
	for _, part := range strings.Fields(table[r.Op].parts) {
		switch part {
		case "Version":
			b = binary.AppendUvarint(b, r.Version)
		case "Count":
			b = binary.AppendUvarint(b, uint64(r.Count))
		case "Items":
			b = binary.AppendUvarint(b, uint64(len(r.Items)))
		case "Numbers":
			b = binary.AppendUvarint(b, uint64(len(r.Numbers)))
			for _, n := range r.Numbers {
				b = binary.AppendUvarint(b, n)
			}
		}
		if part == "Item" || part == "Items" {
			for _, i := range r.Items {
				b = appendItem(b, i)
			}
		}
	}
	return b
}

// appendItem appends an item after the definition.
func appendItem(b []byte, i api.Item) []byte {
	b = binary.AppendUvarint(b, uint64(i.Mark))
	if i.Mark == api.Dead {
		return b
	}
	b = binary.AppendUvarint(b, i.Version)
	b = binary.AppendUvarint(b, uint64(i.Deadline))
	b = binary.AppendUvarint(b, uint64(len(i.Value)))
	return append(b, i.Value...)
}

// wantValid reports whether a response is valid after the definition.
func wantValid(r api.Response) bool {
	if r.Op < 0 || r.Op > 15 || r.Err < 0 || r.Err > 100000 || r.Op == 0 && r.Err == 0 {
		return false
	}
	with := func(part string) bool { return r.Err == 0 && has(r.Op, part) }
	if !with("Version") && r.Version != 0 || !with("Count") && r.Count != 0 || !with("Numbers") && len(r.Numbers) > 0 || !with("Item") && !with("Items") && len(r.Items) > 0 {
		return false
	}
	if r.Count < 0 || r.Count > 1<<40 || len(r.Numbers) > 64 || with("Item") && len(r.Items) != 1 || with("Items") && (len(r.Items) == 0 || len(r.Items) > 16) {
		return false
	}
	for _, i := range r.Items {
		dead := i.Mark == 0 && i.Version == 0 && i.Deadline == 0 && len(i.Value) == 0
		there := (i.Mark == 1 || i.Mark == 2) && len(i.Value) <= 65536
		if !dead && !there {
			return false
		}
	}
	return true
}

// wantRead reads a payload after the definition: what is cut from it, without looking whether it is allowed, must be a response that gives just these bytes.
func wantRead(code byte, b []byte) (api.Response, api.Errno) {
	if code < 64 || code > 79 {
		return api.Response{}, api.ErrFormat
	}
	all, whole := b, true
	number := func() uint64 {
		n, size := binary.Uvarint(b)
		whole = whole && size > 0
		b = b[max(0, size):]
		return n
	}
	item := func() (i api.Item) {
		if i.Mark = api.Mark(number()); i.Mark == api.Dead {
			return i
		}
		i.Version, i.Deadline = number(), api.Time(number())
		n := number()
		if whole = whole && n <= uint64(len(b)); whole {
			i.Value, b = b[:n], b[n:]
		}
		return i
	}
	r := api.Response{Op: api.Op(code - 64), Err: api.Errno(number())}
	for _, part := range strings.Fields(table[code-64].parts) {
		switch {
		case r.Err != api.OK:
		case part == "Version":
			r.Version = number()
		case part == "Count":
			r.Count = int(number())
		case part == "Item":
			r.Items = append(r.Items, item())
		case part == "Items":
			for n := number(); n > 0 && whole; n-- {
				r.Items = append(r.Items, item())
			}
		case part == "Numbers":
			for n := number(); n > 0 && whole; n-- {
				r.Numbers = append(r.Numbers, number())
			}
		}
	}
	if !whole || !wantValid(r) || !bytes.Equal(wantPayload(r), all) {
		return api.Response{}, api.ErrFormat
	}
	return r, api.OK
}

// same compares two responses part by part, without the package.
func same(a, b api.Response) bool {
	if a.Op != b.Op || a.Err != b.Err || a.Version != b.Version || a.Count != b.Count || len(a.Items) != len(b.Items) || !slices.Equal(a.Numbers, b.Numbers) {
		return false
	}
	for i, x := range a.Items {
		y := b.Items[i]
		if x.Mark != y.Mark || x.Version != y.Version || x.Deadline != y.Deadline || string(x.Value) != string(y.Value) {
			return false
		}
	}
	return true
}

// copied returns a copy of a response that shares no memory with it.
func copied(r api.Response) api.Response {
	r.Items, r.Numbers = slices.Clone(r.Items), slices.Clone(r.Numbers)
	for i := range r.Items {
		r.Items[i].Value = bytes.Clone(r.Items[i].Value)
	}
	return r
}

// brief returns the first bytes of a list.
func brief(b []byte) []byte { return b[:min(len(b), 20)] }

// checkGood checks a response that is valid: Valid says so, Write gives its frame, and Read gives it back.
func checkGood(t *testing.T, r api.Response, payload []byte) {
	t.Helper()
	if !response.Valid(r) {
		t.Errorf("Op %d, Err %d with %d bytes %v: not valid", r.Op, r.Err, len(payload), brief(payload))
	}
	code := 64 + byte(r.Op)
	f, e := response.Write(r)
	if f.Code != code || !bytes.Equal(f.Payload, payload) || e != api.OK {
		t.Errorf("Write with the Op %d, Err %d: code %d, %d bytes %v, %d, want %d bytes %v", r.Op, r.Err, f.Code, len(f.Payload), brief(f.Payload), e, len(payload), brief(payload))
	}
	checkRead(t, api.Frame{Code: code, Payload: payload}, r, api.OK)
}

// checkBad checks a response that is not valid.
func checkBad(t *testing.T, what string, r api.Response) {
	t.Helper()
	if response.Valid(r) {
		t.Errorf("Op %d, Err %d, %s: valid", r.Op, r.Err, what)
	}
	if f, e := response.Write(r); f.Code != 0 || len(f.Payload) != 0 || e != api.ErrArg {
		t.Errorf("Op %d, Err %d, %s: Write = code %d, %d bytes, %d", r.Op, r.Err, what, f.Code, len(f.Payload), e)
	}
}

// checkRead compares what Read returns with what it should be.
func checkRead(t *testing.T, f api.Frame, want api.Response, e api.Errno) {
	t.Helper()
	if r, g := response.Read(f); !same(r, want) || g != e {
		t.Errorf("Read of code %d and %d bytes %v = Op %d, Err %d, %d, want Op %d, Err %d, %d", f.Code, len(f.Payload), brief(f.Payload), r.Op, r.Err, g, want.Op, want.Err, e)
	}
}

// checkNone checks a frame that is not that of a response.
func checkNone(t *testing.T, code byte, payload []byte) {
	t.Helper()
	checkRead(t, api.Frame{Code: code, Payload: payload}, api.Response{}, api.ErrFormat)
}

// limits calls a function with responses whose parts are at the ends of what is allowed, and just outside, and says whether they are valid.
func limits(f func(what string, r api.Response, valid bool)) {
	for _, row := range table[1:] {
		with := func(part, what string, valid bool, change func(r *api.Response)) {
			if has(row.op, part) {
				r := filled(row.op)
				change(&r)
				f(part+" "+what, r, valid)
			}
		}
		for _, n := range []int{0, 1, 127, 128, 1 << 31, 1 << 32, 1<<40 - 1, 1 << 40, 1<<40 + 1, 1<<40 + 2, 1 << 41, math.MaxInt, -1, -2, math.MinInt, math.MinInt + 1} {
			with("Count", "of that size", n >= 0 && n <= 1<<40, func(r *api.Response) { r.Count = n })
		}
		for _, n := range []uint64{0, 1, 127, 128, 1 << 32, 1 << 40, 1<<40 + 1, math.MaxInt64, 1 << 63, math.MaxUint64 - 1, math.MaxUint64} {
			with("Version", "of that size", true, func(r *api.Response) { r.Version = n })
			with("Numbers", "with such a one", true, func(r *api.Response) { r.Numbers = []uint64{1, n, 2} })
			for _, part := range []string{"Item", "Items"} {
				with(part, "with such a version", true, func(r *api.Response) { r.Items[0].Version = n; r.Items[0].Mark = api.Fresh })
				with(part, "with such a deadline", true, func(r *api.Response) { r.Items[0].Deadline = api.Time(n) })
			}
		}
		for _, n := range []int{0, 1, 2, 15, 16, 17, 18, 127, 128, 300} {
			with("Item", "so many", n == 1, func(r *api.Response) { r.Items = slices.Repeat([]api.Item{hit}, n) })
			with("Items", "so many", n >= 1 && n <= 16, func(r *api.Response) { r.Items = slices.Repeat([]api.Item{hit}, n) })
			with("Items", "so many dead ones", n >= 1 && n <= 16, func(r *api.Response) { r.Items = make([]api.Item, n) })
		}
		for _, n := range []int{0, 1, 2, 62, 63, 64, 65, 66, 127, 128, 300} {
			with("Numbers", "so many", n <= 64, func(r *api.Response) { r.Numbers = make([]uint64, n) })
			with("Numbers", "so many great ones", n <= 64, func(r *api.Response) { r.Numbers = slices.Repeat([]uint64{math.MaxUint64}, n) })
		}
		for _, n := range []int{0, 1, 127, 128, 16383, 16384, 65535, 65536, 65537, 65538, 70000} {
			value := bytes.Repeat([]byte("v"), n)
			for _, mark := range []api.Mark{api.Fresh, api.Stale} {
				i := api.Item{Mark: mark, Value: value, Version: 1, Deadline: 2}
				with("Item", "with such a value", n <= 65536, func(r *api.Response) { r.Items = []api.Item{i} })
				with("Items", "with one such value", n <= 65536, func(r *api.Response) { r.Items = []api.Item{i} })
				with("Items", "with such a value at the end", n <= 65536, func(r *api.Response) { r.Items = append(make([]api.Item, 15), i) })
				with("Items", "with such a value at the front", n <= 65536, func(r *api.Response) { r.Items = append([]api.Item{i}, make([]api.Item, 15)...) })
				with("Items", "with such values", n <= 65536, func(r *api.Response) { r.Items = slices.Repeat([]api.Item{i}, 16) })
			}
		}
	}
}

// P8.1, P8.2, P8.3: the examples of the chapter, and at least one response for each Op; and the constants.
func TestShort(t *testing.T) {
	for _, x := range short {
		if 64+byte(x.r.Op) != x.code {
			t.Errorf("Op %d has the code %d", x.r.Op, x.code)
		}
		checkGood(t, x.r, x.payload)
		if !bytes.Equal(wantPayload(x.r), x.payload) || !wantValid(x.r) {
			t.Errorf("the payload after the definition is %v, not %v", wantPayload(x.r), x.payload)
		}
	}
	if response.MaxNumbers != 64 || response.MaxErr != 100000 || response.MaxCount != 1<<40 {
		t.Errorf("the limits are %d, %d, %d", response.MaxNumbers, response.MaxErr, response.MaxCount)
	}
}

// P8.1, P8.2: what the chapter names as not valid, and an Op with nothing else.
func TestNotValid(t *testing.T) {
	checkBad(t, "no error", response.Fail(0, api.OK))
	checkBad(t, "no item", api.Response{Op: api.OpGet})
	checkBad(t, "no items", api.Response{Op: api.OpMGet})
	checkBad(t, "an empty list", api.Response{Op: api.OpMGet, Items: []api.Item{}})
	checkBad(t, "Count -1", api.Response{Op: api.OpDel, Count: -1})
	checkBad(t, "a dead item with a version", one(api.Item{Version: 1}))
	for _, row := range table {
		if r := (api.Response{Op: row.op}); row.op != 0 && !strings.HasPrefix(row.parts, "Item") {
			checkGood(t, r, wantPayload(r))
		} else {
			checkBad(t, "nothing else", r)
		}
	}
}

// P8.1, P8.2: numbers that are neither 0 nor of an Op, without and with parts, and with errors.
func TestUnknownOps(t *testing.T) {
	for _, op := range noOps {
		for _, e := range []api.Errno{0, 1, 6, 100000} {
			checkBad(t, "unknown", response.Fail(op, e))
		}
		for _, row := range table {
			r := filled(row.op)
			r.Op = op
			checkBad(t, "unknown, with other parts", r)
		}
	}
}

// P8.1, P8.2, P8.3: the error of each Op has no other part; those that are out of range are no errors.
func TestErrs(t *testing.T) {
	for _, row := range table {
		for _, e := range []api.Errno{1, 2, 16, 127, 128, 250, 16383, 16384, 65536, 99999, 100000} {
			checkGood(t, api.Response{Op: row.op, Err: e}, binary.AppendUvarint(nil, uint64(e)))
			checkGood(t, api.Response{Op: row.op, Err: e, Items: []api.Item{}, Numbers: []uint64{}}, binary.AppendUvarint(nil, uint64(e)))
			for what, r := range map[string]api.Response{
				"a Version": {Version: 1},
				"a Count":   {Count: 1},
				"Count -1":  {Count: -1},
				"an item":   {Items: []api.Item{hit}},
				"a dead":    {Items: []api.Item{{}}},
				"items":     {Items: []api.Item{hit, {}}},
				"a number":  {Numbers: []uint64{0}},
			} {
				r.Op, r.Err = row.op, e
				checkBad(t, "with "+what, r)
			}
			r := filled(row.op)
			r.Err = e
			if row.op != 0 {
				checkBad(t, "with all parts", r)
			}
			for _, more := range [][]byte{{0}, {1}, {0, 0}, {128}, {5, 5}} {
				checkNone(t, 64+byte(row.op), append(binary.AppendUvarint(nil, uint64(e)), more...))
			}
		}
		for _, e := range noErrs {
			checkBad(t, "out of range", response.Fail(row.op, e))
			checkNone(t, 64+byte(row.op), binary.AppendUvarint(nil, uint64(e)))
			r := filled(row.op)
			r.Err = e
			checkBad(t, "out of range, with all parts", r)
			checkNone(t, 64+byte(row.op), slices.Concat(binary.AppendUvarint(nil, uint64(e)), wantPayload(filled(row.op))[1:]))
		}
	}
	checkNone(t, 64, []byte{0})
	checkNone(t, 64, nil)
}

// P8.1, P8.2, P8.3: each part is allowed for the Ops that have it, and for no others, in all combinations of some; and what is in a frame is read as the definition says.
func TestParts(t *testing.T) {
	items := [][]api.Item{nil, {}, {{}}, {hit}, {old, {}}, {{Version: 1}}, {{Mark: 3}}, {hit, {Deadline: 1}}, {{Value: []byte{0}}}, {{Mark: -1}}, make([]api.Item, 16), make([]api.Item, 17)}
	numbers := [][]uint64{nil, {}, {0}, {1, 300}, make([]uint64, 64), make([]uint64, 65)}
	valid := 0
	for _, row := range table {
		for _, e := range []api.Errno{0, 1, 100000, 100001, -1} {
			for _, version := range []uint64{0, 1, math.MaxUint64} {
				for _, count := range []int{0, 1, 1 << 40, 1<<40 + 1, -1} {
					for _, l := range items {
						for _, n := range numbers {
							r := api.Response{Op: row.op, Err: e, Version: version, Count: count, Items: l, Numbers: n}
							if wantValid(r) {
								valid++
								checkGood(t, r, wantPayload(r))
							} else {
								checkBad(t, "not valid after the definition", r)
							}
						}
					}
				}
			}
		}
	}
	if valid < 300 {
		t.Errorf("only %d of them are valid", valid)
	}
}

// P8.1, P8.2: a part that an Op does not have is wrong with the least value that is not zero, and with one that would not be allowed for any Op.
func TestOtherParts(t *testing.T) {
	changes := []struct {
		part   string
		change func(r *api.Response)
	}{
		{"Version", func(r *api.Response) { r.Version = 1 }},
		{"Version", func(r *api.Response) { r.Version = math.MaxUint64 }},
		{"Count", func(r *api.Response) { r.Count = 1 }},
		{"Count", func(r *api.Response) { r.Count = 1 << 40 }},
		{"", func(r *api.Response) { r.Count = -1 }},
		{"", func(r *api.Response) { r.Count = math.MaxInt }},
		{"Numbers", func(r *api.Response) { r.Numbers = []uint64{0} }},
		{"", func(r *api.Response) { r.Numbers = make([]uint64, 65) }},
		{"Item Items", func(r *api.Response) { r.Items = []api.Item{{}} }},
		{"Item Items", func(r *api.Response) { r.Items = []api.Item{hit} }},
		{"Items", func(r *api.Response) { r.Items = []api.Item{hit, hit} }},
		{"", func(r *api.Response) { r.Items = []api.Item{{Mark: 3}} }},
	}
	for _, row := range table {
		for i, x := range changes {
			r := filled(row.op)
			x.change(&r)
			allowed := false
			for _, part := range strings.Fields(x.part) {
				allowed = allowed || has(row.op, part)
			}
			if allowed {
				checkGood(t, r, wantPayload(r))
			} else {
				checkBad(t, "with change "+strconv.Itoa(i), r)
			}
		}
	}
}

// P8.1, P8.2, P8.3: the ends of what each part may be, and what is just outside, also in a frame.
func TestLimits(t *testing.T) {
	limits(func(what string, r api.Response, valid bool) {
		if valid {
			checkGood(t, r, wantPayload(r))
			return
		}
		checkBad(t, what, r)
		checkNone(t, 64+byte(r.Op), wantPayload(r))
	})
}

// P8.1, P8.2, P8.3: the marks, and what a dead item must not have, at each place of the list.
func TestItems(t *testing.T) {
	at := func(i api.Item, f func(r api.Response)) {
		f(one(i))
		for n := 1; n <= 16; n++ {
			for place := range n {
				r := some(make([]api.Item, n)...)
				r.Items[place] = i
				f(r)
			}
		}
	}
	for _, mark := range noMarks {
		for _, i := range []api.Item{{Mark: mark}, {Mark: mark, Value: []byte("x"), Version: 7, Deadline: 9}} {
			at(i, func(r api.Response) {
				checkBad(t, "with another mark", r)
				checkNone(t, 64+byte(r.Op), wantPayload(r))
			})
			checkNone(t, 68, binary.AppendUvarint([]byte{0}, uint64(mark)))
		}
	}
	for _, i := range []api.Item{{Version: 1}, {Deadline: 1}, {Value: []byte{0}}, {Version: math.MaxUint64}, {Deadline: api.Never}, {Value: make([]byte, 65537)}, {Value: []byte("x"), Version: 7, Deadline: 9}} {
		at(i, func(r api.Response) { checkBad(t, "a dead item with other parts", r) })
	}
	for _, i := range []api.Item{{}, {Value: []byte{}}, hit, old, {Mark: api.Fresh}, {Mark: api.Stale}, {Mark: api.Fresh, Value: []byte{}}, {Mark: api.Stale, Deadline: api.Never}} {
		at(i, func(r api.Response) { checkGood(t, r, wantPayload(r)) })
	}
}

// P8.1: responses that are equal, and such as differ in one part.
func TestEqual(t *testing.T) {
	all := api.Response{Op: api.OpSet, Err: 6, Items: []api.Item{hit, old}, Version: 7, Count: 8, Numbers: []uint64{1, 2}}
	check := func(what string, change func(r *api.Response)) {
		t.Helper()
		r := copied(all)
		change(&r)
		if response.Equal(all, r) || response.Equal(r, all) {
			t.Errorf("equal with another %s", what)
		}
		if !response.Equal(r, copied(r)) {
			t.Errorf("with another %s not equal to itself", what)
		}
	}
	for _, n := range []int{0, 2, -1, 5, 9, 1 + 1<<32, 6 + 1<<32, 8 + 1<<32, math.MinInt, math.MaxInt} {
		check("Op", func(r *api.Response) { r.Op = api.Op(n) })
		check("Err", func(r *api.Response) { r.Err = api.Errno(n) })
		check("Count", func(r *api.Response) { r.Count = n })
		check("Mark", func(r *api.Response) { r.Items[0].Mark = api.Mark(n) })
	}
	for _, mark := range append(noMarks, api.Dead, api.Fresh) {
		check("Mark at the end", func(r *api.Response) { r.Items[1].Mark = mark })
	}
	for _, n := range []uint64{0, 4, 8, 7 + 1<<32, 7 + 1<<63, 1 << 63, math.MaxUint64} {
		check("Version", func(r *api.Response) { r.Version = n })
		for i := range 2 {
			check("Version of an item", func(r *api.Response) { r.Items[i].Version = n })
			check("Deadline", func(r *api.Response) { r.Items[i].Deadline = api.Time(n) })
			check("number", func(r *api.Response) { r.Numbers[i] = n })
		}
	}
	for _, v := range [][]byte{nil, {}, []byte("y"), []byte("X"), []byte("xx"), []byte("x\x00"), []byte("yy"), []byte("zz"), []byte("yzz")} {
		for i := range 2 {
			check("Value", func(r *api.Response) { r.Items[i].Value = v })
		}
	}
	for _, l := range [][]api.Item{nil, {}, {hit}, {old}, {old, hit}, {hit, hit}, {hit, old, old}, {hit, old, {}}, {{}, {}}, {{}, hit, old}} {
		check("list of items", func(r *api.Response) { r.Items = l })
	}
	for _, l := range [][]uint64{nil, {}, {1}, {2}, {2, 1}, {1, 1}, {1, 2, 2}, {1, 2, 0}, {0, 0}, {0, 1, 2}} {
		check("list of numbers", func(r *api.Response) { r.Numbers = l })
	}
}

// P8.1: none and no elements are equal, and so are copies, valid or not.
func TestEqualCopies(t *testing.T) {
	empty := api.Response{Items: []api.Item{}, Numbers: []uint64{}}
	if !response.Equal(api.Response{}, empty) || !response.Equal(empty, api.Response{}) || !response.Equal(one(api.Item{}), one(api.Item{Value: []byte{}})) || !response.Equal(one(api.Item{Value: []byte{}}), one(api.Item{})) {
		t.Error("none and no elements are not equal")
	}
	var all []api.Response
	for _, row := range table {
		all = append(all, filled(row.op), response.Fail(row.op, 9))
	}
	for _, op := range noOps {
		all = append(all, api.Response{Op: op, Err: -9, Count: -1, Version: 1, Numbers: make([]uint64, 99), Items: []api.Item{{Mark: 99, Value: make([]byte, 70000)}, {}, {Version: 5}}})
	}
	for i, a := range all {
		for j, b := range all {
			if response.Equal(a, copied(b)) != (i == j) {
				t.Errorf("Equal of Op %d, Err %d and Op %d, Err %d is not %t", a.Op, a.Err, b.Op, b.Err, i == j)
			}
		}
	}
}

// P8.1: Fail returns just an Op and an error, whatever they are.
func TestFail(t *testing.T) {
	ops, errs := slices.Clone(noOps), slices.Clone(noErrs)
	for n := range 20 {
		ops, errs = append(ops, api.Op(n)), append(errs, api.Errno(n))
	}
	errs = append(errs, 250, 99999, 100000)
	for _, op := range ops {
		for _, e := range errs {
			if r := response.Fail(op, e); !same(r, api.Response{Op: op, Err: e}) {
				t.Errorf("Fail(%d, %d) = %v", op, e, r)
			}
		}
	}
}

// P8.3: frames of no response that the chapter names.
func TestReadExamples(t *testing.T) {
	checkNone(t, 4, []byte{0})
	checkNone(t, 68, nil)
	checkNone(t, 68, []byte{0})
	checkNone(t, 71, []byte{0, 5, 0})
	checkNone(t, 68, []byte{0, 3, 1, 5, 0})
}

// P8.3: frames of no response: parts that are not allowed, not whole, or not there.
func TestReadErrors(t *testing.T) {
	for _, x := range []struct {
		code    byte
		payload []byte
	}{
		{64, nil}, {64, []byte{0}}, {64, []byte{0, 0}}, {64, []byte{1, 0}}, {64, []byte{128}},
		{65, nil}, {65, []byte{0}}, {65, []byte{0, 1}}, {65, []byte{0, 1, 2, 3}}, {65, []byte{0, 1, 128}}, {65, []byte{1, 1, 2}}, {66, []byte{0, 5}}, {67, []byte{0, 5, 6, 0}}, {67, []byte{0, 128, 1}},
		{68, []byte{0, 1}}, {68, []byte{0, 1, 7}}, {68, []byte{0, 1, 7, 9}}, {68, []byte{0, 1, 7, 9, 1}}, {68, []byte{0, 1, 7, 9, 2, 120}}, {68, []byte{0, 1, 7, 9, 0, 120}}, {68, []byte{0, 0, 0}}, {68, []byte{0, 0, 1, 5, 0}}, {68, []byte{0, 1, 0}}, {68, []byte{0, 1, 1, 7, 9, 1, 120}}, {68, []byte{0, 255, 1, 5, 0}},
		{69, nil}, {69, []byte{0}}, {69, []byte{0, 0}}, {69, []byte{0, 1}}, {69, []byte{0, 2, 0}}, {69, []byte{0, 1, 0, 0}}, {69, []byte{0, 1, 1, 7, 9}}, {69, []byte{0, 1, 3, 7, 9, 0}}, {69, []byte{0, 0, 0}},
		{69, repeatIn([]byte{0, 17}, 0, 17)}, {69, repeatIn([]byte{0, 17}, 0, 16)}, {69, repeatIn([]byte{0, 16}, 0, 17)}, {69, repeatIn([]byte{0, 16}, 0, 15)},
		{70, nil}, {70, []byte{0}}, {71, []byte{0, 128}}, {72, []byte{0, 1, 1}}, {73, []byte{0}}, {74, []byte{0, 0, 0}}, {75, []byte{13, 0}}, {76, []byte{128, 0}}, {77, []byte{0, 128, 0}}, {78, []byte{0}},
		{79, nil}, {79, []byte{0}}, {79, []byte{0, 1}}, {79, []byte{0, 0, 0}}, {79, []byte{0, 2, 1}}, {79, []byte{0, 2, 1, 2, 3}}, {79, []byte{0, 1, 128}},
		{79, repeatIn([]byte{0, 65}, 0, 65)}, {79, repeatIn([]byte{0, 65}, 0, 64)}, {79, repeatIn([]byte{0, 64}, 0, 65)}, {79, repeatIn([]byte{0, 64}, 0, 63)},
	} {
		checkNone(t, x.code, x.payload)
		if _, e := wantRead(x.code, x.payload); e != api.ErrFormat {
			t.Errorf("code %d and %v are a response after the definition", x.code, x.payload)
		}
	}
}

// P8.3, P8.4: each code; those of no Op have no payload that is right.
func TestReadCodes(t *testing.T) {
	payloads := [][]byte{nil, {}, {0}, {1}, {0, 1, 2, 3, 4}, {1, 97}}
	for _, x := range short {
		payloads = append(payloads, x.payload)
	}
	for code := range 256 {
		for _, p := range payloads {
			r, e := wantRead(byte(code), p)
			checkRead(t, api.Frame{Code: byte(code), Payload: p}, r, e)
			if code < 64 || code > 79 {
				checkNone(t, byte(code), p)
			}
		}
	}
}

// P8.3, P8.4: all payloads of at most some of a few bytes, for each code, after the definition; and what was read is written with just the bytes that were there.
func TestReadOfFewBytes(t *testing.T) {
	read := 0
	check := func(code byte, b []byte) {
		want, e := wantRead(code, b)
		f := api.Frame{Code: code, Payload: b}
		checkRead(t, f, want, e)
		if e != api.OK {
			return
		}
		read++
		r, _ := response.Read(f)
		if again, e := response.Write(r); !frame.Equal(again, f) || e != api.OK || !response.Valid(r) {
			t.Errorf("Read of code %d and %v is written as %v, %d", code, b, again, e)
		}
	}
	var longer func(code byte, b, few []byte, most int)
	longer = func(code byte, b, few []byte, most int) {
		check(code, b)
		for _, c := range few {
			if len(b) < most {
				longer(code, append(slices.Clone(b), c), few, most)
			}
		}
	}
	for code := byte(63); code <= 80; code++ {
		longer(code, nil, []byte{0, 1, 2, 3, 128}, 5)
		longer(code, []byte{0}, []byte{0, 1, 17, 255}, 6)
		longer(code, []byte{160, 141}, []byte{0, 1, 5, 6, 7, 128}, 5)
	}
	longer(68, []byte{0}, []byte{0, 1, 2, 3, 128}, 7)
	longer(69, []byte{0, 1}, []byte{0, 1, 2, 128}, 8)
	longer(69, []byte{0, 2, 0}, []byte{0, 1, 2, 128}, 8)
	longer(69, []byte{0, 2, 1, 7, 9}, []byte{0, 1, 2, 128}, 11)
	longer(79, []byte{0}, []byte{0, 1, 2, 5, 128}, 7)
	if read < 1000 {
		t.Errorf("only %d of them are responses", read)
	}
}

// P8.3: a payload that is cut off anywhere, or to which anything was added, is not the one of a response any more.
func TestReadCutOrLonger(t *testing.T) {
	var all []api.Response
	for _, row := range table {
		all = append(all, filled(row.op), response.Fail(row.op, 100000))
	}
	for _, x := range short {
		all = append(all, x.r)
	}
	great := api.Item{Mark: api.Fresh, Value: make([]byte, 300), Version: math.MaxUint64, Deadline: api.Never}
	all = append(all, one(great), some(slices.Repeat([]api.Item{great}, 3)...), api.Response{Op: api.OpStats, Numbers: slices.Repeat([]uint64{math.MaxUint64}, 64)})
	for _, r := range all {
		b := wantPayload(r)
		for i := range b {
			checkNone(t, 64+byte(r.Op), b[:i])
		}
		for _, more := range [][]byte{{0}, {1}, {97}, {128}, {255}, {0, 0}, {1, 97}, make([]byte, 300)} {
			checkNone(t, 64+byte(r.Op), slices.Concat(b, more))
		}
	}
}

// P8.3: numbers that are no encoding of layer 4, in each place where there is a number.
func TestReadNoNumbers(t *testing.T) {
	bad := [][]byte{{128, 0}, {129, 0}, {129, 128, 0}, {130, 0}, repeatIn(nil, 255, 9, 2), repeatIn(nil, 255, 10, 1), repeatIn(nil, 128, 9, 0), repeatIn(nil, 128, 20)}
	before := [][]byte{nil, {0}, {0, 1}, {0, 1, 7}, {0, 1, 7, 9}, {0, 2, 0}, {0, 1, 1}, {0, 1, 1, 7}, {0, 1, 1, 7, 9}, {0, 2, 5}, {0, 2, 1, 7, 9, 0}}
	after := [][]byte{nil, {0}, {1}, {1, 120}, {0, 0}, {7, 9, 0}, {7, 9, 1, 120}, {9, 1, 120}, {120}}
	for _, n := range bad {
		for code := byte(64); code <= 79; code++ {
			for _, x := range before {
				for _, y := range after {
					b := slices.Concat(x, n, y)
					checkNone(t, code, b)
				}
			}
		}
	}
}

// P1, P8.3: numbers, lengths and how many there are, as great as they may be; and payloads that are longer than those of frames.
func TestReadGreatNumbers(t *testing.T) {
	for _, n := range []uint64{3, 16, 17, 64, 65, 65536, 65537, 100000, 100001, 1 << 31, 1<<31 + 1, 1 << 32, 1<<32 + 1, 1 << 40, 1<<40 + 1, math.MaxInt64, 1 << 63, 1<<63 + 1, math.MaxUint64} {
		b := binary.AppendUvarint(nil, n)
		for code := byte(64); code <= 79; code++ {
			for _, before := range [][]byte{nil, {0}, {0, 1}, {0, 1, 7}, {0, 1, 7, 9}, {0, 1, 1}, {0, 1, 1, 7, 9}} {
				for _, after := range [][]byte{nil, {0}, {120}, {7, 9, 0}, make([]byte, 300)} {
					p := slices.Concat(before, b, after)
					r, e := wantRead(code, p)
					checkRead(t, api.Frame{Code: code, Payload: p}, r, e)
				}
			}
		}
	}
	for code := range 256 {
		checkNone(t, byte(code), make([]byte, frame.MaxPayload+1))
		checkNone(t, byte(code), bytes.Repeat([]byte{1}, frame.MaxPayload))
	}
}

// P8.4: Read inverts Write, and Write inverts Read; also through the bytes of frames.
func TestInverse(t *testing.T) {
	check := func(r api.Response) {
		f, e := response.Write(r)
		b, g := frame.Write(f)
		if e != api.OK || g != api.OK {
			t.Fatalf("Write with the Op %d: %d, %d", r.Op, e, g)
		}
		f, _, _ = frame.Read(b, frame.MaxPayload)
		again, e := response.Read(f)
		if !same(again, r) || !response.Equal(again, r) || e != api.OK {
			t.Errorf("Op %d is read as Op %d, %d", r.Op, again.Op, e)
		}
		if f2, e := response.Write(again); !frame.Equal(f2, f) || e != api.OK {
			t.Errorf("Op %d is written another time as %d bytes, %d, not as %d", r.Op, len(f2.Payload), e, len(f.Payload))
		}
	}
	for _, x := range short {
		check(x.r)
	}
	limits(func(_ string, r api.Response, valid bool) {
		if valid {
			check(r)
		}
	})
	for i := range 256 {
		n := uint64(i) << (i % 57)
		value := bytes.Repeat([]byte{byte(i)}, i)
		x := api.Item{Mark: api.Mark(i%2 + 1), Value: value, Version: n, Deadline: api.Time(n)}
		check(one(x))
		check(some(slices.Repeat([]api.Item{x, {}}, i%8+1)...))
		check(api.Response{Op: api.OpStats, Numbers: slices.Repeat([]uint64{n}, i%65)})
		for _, row := range table {
			check(response.Fail(row.op, api.Errno(i*391+1)))
			if r := filled(row.op); has(row.op, "Count") {
				r.Count = int(n % (1 << 40))
				check(r)
			}
		}
	}
}

// P8.4: different responses have different frames.
func TestDifferentFrames(t *testing.T) {
	of := map[string]api.Response{}
	add := func(r api.Response) {
		f, e := response.Write(r)
		b, g := frame.Write(f)
		if e != api.OK || g != api.OK {
			t.Fatalf("Write with the Op %d: %d, %d", r.Op, e, g)
		}
		if other, met := of[string(b)]; met && !same(other, r) {
			t.Errorf("the Ops %d and %d have the same frame", other.Op, r.Op)
		}
		of[string(b)] = r
	}
	limits(func(_ string, r api.Response, valid bool) {
		if valid {
			add(r)
		}
	})
	for _, x := range short {
		add(x.r)
	}
}

// P8.4: no frame is that of a command and of a response.
func TestNoCommands(t *testing.T) {
	for _, x := range short {
		f, _ := response.Write(x.r)
		if c, e := request.Read(f); !request.Equal(c, api.Command{}) || e != api.ErrFormat {
			t.Errorf("the response with the Op %d is a command with the Op %d", x.r.Op, c.Op)
		}
	}
	for _, c := range []api.Command{
		{Op: api.OpSet, Key: "a", Life: 1}, {Op: api.OpAdd, Key: "a", Value: []byte("x"), Life: 1}, {Op: api.OpCAS, Key: "a", Life: 1, Version: 2},
		{Op: api.OpGet, Key: "a"}, {Op: api.OpMGet, Keys: []string{"a"}}, {Op: api.OpTouch, Key: "a", Life: 1}, {Op: api.OpDel, Key: "a"},
		{Op: api.OpPurgeTag, Tag: "t"}, {Op: api.OpSoftPurge, Tag: "t"}, {Op: api.OpPurgePrefix}, {Op: api.OpDepAdd, Key: "a", Child: "b"},
		{Op: api.OpDepDel, Key: "a", Child: "b"}, {Op: api.OpInvalidate, Key: "a"}, {Op: api.OpFlush}, {Op: api.OpStats},
	} {
		f, e := request.Write(c)
		if e != api.OK {
			t.Fatalf("the command with the Op %d: %d", c.Op, e)
		}
		checkRead(t, f, api.Response{}, api.ErrFormat)
	}
	var longer func(b []byte)
	longer = func(b []byte) {
		for code := range 256 {
			f := api.Frame{Code: byte(code), Payload: b}
			_, e := request.Read(f)
			if _, g := response.Read(f); e == api.OK && g == api.OK {
				t.Errorf("code %d and %v are a command and a response", code, b)
			}
		}
		for _, c := range []byte{0, 1, 97} {
			if len(b) < 4 {
				longer(append(slices.Clone(b), c))
			}
		}
	}
	longer(nil)
}

// P0.4, P8.4: responses that were sent one after the other are the same ones, however the bytes are split.
func TestThroughDecoder(t *testing.T) {
	var b []byte
	for _, x := range short {
		f, _ := response.Write(x.r)
		w, _ := frame.Write(f)
		b = append(b, w...)
	}
	for size := 1; size <= len(b); size++ {
		d, _ := decode.New(300)
		var got []api.Response
		for chunk := range slices.Chunk(b, size) {
			d.Feed(chunk)
			for f, e := d.Next(); e != api.ErrShort; f, e = d.Next() {
				r, g := response.Read(f)
				if e != api.OK || g != api.OK {
					t.Fatalf("in pieces of %d: Next %d, Read %d", size, e, g)
				}
				got = append(got, r)
			}
		}
		if len(got) != len(short) {
			t.Fatalf("in pieces of %d: %d responses, want %d", size, len(got), len(short))
		}
		for i, r := range got {
			if !same(r, short[i].r) {
				t.Errorf("in pieces of %d: at %d %v", size, i, r)
			}
		}
	}
}

// P8.4: what is written has no bytes in common with the response, nor has what is written twice; and the response is not changed.
func TestWriteSharesNothing(t *testing.T) {
	value := []byte("0123456789")
	items := []api.Item{{Mark: api.Fresh, Value: value[2:5], Version: 1}, {}, {Mark: api.Stale, Value: value[5:5]}, {Mark: api.Fresh, Value: value[7:8]}}
	numbers := []uint64{1, 2, 3, 4}
	for _, r := range []api.Response{{Op: api.OpGet, Items: items[:1]}, {Op: api.OpMGet, Items: items[:3]}, {Op: api.OpStats, Numbers: numbers[:2]}, {Op: api.OpSet, Version: 5, Count: 6}, {Op: api.OpGet, Err: 9}} {
		before := copied(r)
		first, _ := response.Write(r)
		second, _ := response.Write(r)
		_ = append(first.Payload, 99, 99)
		for i := range first.Payload {
			first.Payload[i] = 99
		}
		if !bytes.Equal(second.Payload, wantPayload(before)) || !same(r, before) {
			t.Errorf("what was written has become %v, and the response %v", second.Payload, r)
		}
	}
	if string(value) != "0123456789" || !slices.Equal(numbers, []uint64{1, 2, 3, 4}) || string(items[3].Value) != "7" {
		t.Errorf("the responses have become %s, %v, %v", value, items, numbers)
	}
	r := some(items[:3]...)
	want := wantPayload(r)
	f, _ := response.Write(r)
	clear(value)
	clear(items)
	if !bytes.Equal(f.Payload, want) {
		t.Errorf("what was written has become %v", f.Payload)
	}
}

// P8.4: what is read has no bytes in common with the frame, nor has what is read twice, nor have the items of one response.
func TestReadSharesNothing(t *testing.T) {
	for _, r := range []api.Response{one(hit), some(old, api.Item{}, hit, old), {Op: api.OpStats, Numbers: []uint64{1, 200, 3}}} {
		whole := append(wantPayload(r), 1, 2, 3)
		kept := bytes.Clone(whole)
		f := api.Frame{Code: 64 + byte(r.Op), Payload: whole[:len(whole)-3]}
		first, _ := response.Read(f)
		second, _ := response.Read(f)
		for i, x := range first.Items {
			_ = append(x.Value, 9, 9)
			for n := range x.Value {
				x.Value[n] = 9
			}
			if later := first.Items[i+1:]; !same(api.Response{Items: later}, api.Response{Items: r.Items[i+1:]}) {
				t.Errorf("the items after one that was changed have become %v", later)
			}
		}
		_, _ = append(first.Items, api.Item{}), append(first.Numbers, 9)
		clear(first.Items)
		clear(first.Numbers)
		if !same(second, r) || !bytes.Equal(whole, kept) {
			t.Errorf("the other one has become %v, and the payload %v", second, whole)
		}
		clear(whole)
		if !same(second, r) {
			t.Errorf("what was read has become %v", second)
		}
	}
}

// P8.4: questions leave their arguments as they are, and equal calls have equal results.
func TestNothingIsChanged(t *testing.T) {
	get, stats := some(hit, api.Item{}, old), api.Response{Op: api.OpStats, Numbers: []uint64{3, 1, 2}}
	for range 3 {
		if !response.Valid(get) || !response.Valid(stats) || !response.Equal(get, get) || !response.Equal(stats, stats) || response.Equal(get, stats) {
			t.Error("another result")
		}
	}
	if !same(get, some(hit, api.Item{}, old)) || !slices.Equal(stats.Numbers, []uint64{3, 1, 2}) {
		t.Errorf("the responses have become %v, %v", get, stats)
	}
}

// P1: long lists and values come to an end.
func TestLong(t *testing.T) {
	items, numbers, value := make([]api.Item, 1<<20), make([]uint64, 1<<22), make([]byte, 1<<24)
	for _, row := range table {
		r := api.Response{Op: row.op, Items: items, Version: 1, Count: 1, Numbers: numbers}
		checkBad(t, "everything is too long", r)
		other := r
		other.Numbers = append(make([]uint64, 1<<22-1), 1)
		if !response.Equal(r, r) || response.Equal(r, other) {
			t.Error("long lists are not equal, or others are")
		}
		r = filled(row.op)
		r.Items = items
		checkBad(t, "many items", r)
		r = filled(row.op)
		r.Numbers = numbers
		checkBad(t, "many numbers", r)
		r = filled(row.op)
		r.Items = []api.Item{{Mark: api.Fresh, Value: value}}
		checkBad(t, "a long value", r)
	}
}
