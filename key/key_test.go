package key_test

import (
	"bytes"
	"slices"
	"strings"
	"testing"

	"tagcache/api"
	"tagcache/key"
)

// allBytes returns a list of all 256 bytes as strings, in order.
func allBytes() []string {
	out := make([]string, 256)
	for i := range out {
		out[i] = string([]byte{byte(i)})
	}
	return out
}

// someKeys returns keys with slashes in all places, of all bytes, and as long as can be.
func someKeys() []string {
	out := []string{"x", "/", "//", "a/", "/a", "a/b", "a//b/", "//a//", "user/7/name", "a\\b", "\x00/\xff", "é/ä", strings.Repeat("/", 250), strings.Repeat("x", 250), strings.Repeat("x", 249) + "/", "/" + strings.Repeat("x", 249), strings.Repeat("ab/", 83)}
	return append(out, allBytes()...)
}

// P2.1: what is long enough and not too long, of any bytes.
func TestValidByLength(t *testing.T) {
	for _, c := range allBytes() {
		for n := range 300 {
			s := strings.Repeat(c, n)
			if got, want := key.Valid(s), n >= 1 && n <= 250; got != want {
				t.Errorf("Valid of %d times %q = %v", n, c, got)
			}
			if got, want := key.ValidTag(s), n >= 1 && n <= 64; got != want {
				t.Errorf("ValidTag of %d times %q = %v", n, c, got)
			}
			if got, want := key.ValidPrefix(s), n <= 250; got != want {
				t.Errorf("ValidPrefix of %d times %q = %v", n, c, got)
			}
		}
	}
}

// P2.1: bytes are counted, not letters.
func TestValidCountsBytes(t *testing.T) {
	if !key.Valid(strings.Repeat("é", 125)) || key.Valid(strings.Repeat("é", 126)) {
		t.Error("Valid does not count bytes")
	}
	if !key.ValidTag(strings.Repeat("é", 32)) || key.ValidTag(strings.Repeat("é", 33)) {
		t.Error("ValidTag does not count bytes")
	}
	if !key.ValidPrefix(strings.Repeat("é", 125)) || key.ValidPrefix(strings.Repeat("é", 126)) {
		t.Error("ValidPrefix does not count bytes")
	}
}

// P2.1: strings with a common beginning, of which one may be the other one's beginning.
func TestHasAndCommon(t *testing.T) {
	long := strings.Repeat("x", 300)
	for _, c := range []struct {
		a, b   string
		has    bool
		common int
	}{
		{"", "", true, 0},
		{"a", "", true, 0},
		{"", "a", false, 0},
		{"a/b", "a/", true, 2},
		{"a/b", "b", false, 0},
		{"a/b", "/b", false, 0},
		{"a/", "a/b", false, 2},
		{"abc", "abc", true, 3},
		{"abc", "abd", false, 2},
		{"abc", "ABC", false, 0},
		{"xbc", "abc", false, 0},
		{"a\x00b", "a\x00", true, 2},
		{"é", "\xc3", true, 1},
		{"é", "ê", false, 1},
		{"\xff\xfe", "\xff\xff", false, 1},
		{long, long[:299], true, 299},
		{long, long + "x", false, 300},
	} {
		if got := key.Has(c.a, c.b); got != c.has {
			t.Errorf("Has(%q, %q) = %v", c.a, c.b, got)
		}
		if got := key.Common(c.a, c.b); got != c.common {
			t.Errorf("Common(%q, %q) = %d, want %d", c.a, c.b, got, c.common)
		}
		if got := key.Common(c.b, c.a); got != c.common {
			t.Errorf("Common(%q, %q) = %d, want %d", c.b, c.a, got, c.common)
		}
	}
}

// P2.1: strings have a prefix if they have all of it in common.
func TestHasAfterCommon(t *testing.T) {
	l := append(someKeys(), "", strings.Repeat("x", 1000))
	for _, a := range l {
		for _, b := range l {
			n := key.Common(a, b)
			if a[:n] != b[:n] || n < len(a) && n < len(b) && a[n] == b[n] {
				t.Errorf("Common(%q, %q) = %d", a, b, n)
			}
			if key.Has(a, b) != (n == len(b)) {
				t.Errorf("Has(%q, %q) = %v, but they have %d bytes in common", a, b, key.Has(a, b), n)
			}
		}
	}
}

var parts = []struct {
	key      string
	segments []string
	folders  []string
}{
	{"x", []string{"x"}, nil},
	{"/", []string{"", ""}, []string{"/"}},
	{"//", []string{"", "", ""}, []string{"/", "//"}},
	{"/a", []string{"", "a"}, []string{"/"}},
	{"a/", []string{"a", ""}, []string{"a/"}},
	{"a//b/", []string{"a", "", "b", ""}, []string{"a/", "a//", "a//b/"}},
	{"user/7/name", []string{"user", "7", "name"}, []string{"user/", "user/7/"}},
	{"a\\b", []string{"a\\b"}, nil},
	{"\x00/\xff\xfe", []string{"\x00", "\xff\xfe"}, []string{"\x00/"}},
}

// P2.2: slashes at the beginning, at the end, and one after the other.
func TestSegmentsJoinFolders(t *testing.T) {
	for _, c := range parts {
		if got, e := key.Segments(c.key); !slices.Equal(got, c.segments) || e != api.OK {
			t.Errorf("Segments(%q) = %q, %d, want %q", c.key, got, e, c.segments)
		}
		if got, e := key.Folders(c.key); !slices.Equal(got, c.folders) || e != api.OK {
			t.Errorf("Folders(%q) = %q, %d, want %q", c.key, got, e, c.folders)
		}
		if got, e := key.Join(c.segments); got != c.key || e != api.OK {
			t.Errorf("Join(%q) = %q, %d, want %q", c.segments, got, e, c.key)
		}
	}
}

// P2.2: as many segments and folders as there can be.
func TestSegmentsOfSlashes(t *testing.T) {
	s := strings.Repeat("/", 250)
	l, e := key.Segments(s)
	if !slices.Equal(l, make([]string, 251)) || e != api.OK {
		t.Errorf("Segments of 250 slashes = %q, %d", l, e)
	}
	if got, e := key.Join(l); got != s || e != api.OK {
		t.Errorf("Join of 251 empty segments = %q, %d", got, e)
	}
	l, e = key.Folders(s)
	if len(l) != 250 || e != api.OK {
		t.Errorf("Folders of 250 slashes = %q, %d", l, e)
	}
	for i, f := range l {
		if f != s[:i+1] {
			t.Errorf("folder %d of 250 slashes = %q", i, f)
		}
	}
}

// P2.2: strings that are no keys have neither segments nor folders.
func TestPartsOfNoKeys(t *testing.T) {
	for _, s := range []string{"", strings.Repeat("x", 251), strings.Repeat("/", 251), strings.Repeat("ab/", 1000)} {
		if got, e := key.Segments(s); got != nil || e != api.ErrArg {
			t.Errorf("Segments of %d bytes = %q, %d, want ErrArg", len(s), got, e)
		}
		if got, e := key.Folders(s); got != nil || e != api.ErrArg {
			t.Errorf("Folders of %d bytes = %q, %d, want ErrArg", len(s), got, e)
		}
	}
}

// P2.2: the longest keys are put together, and none that is longer, be it by its last slash alone.
func TestJoinOfTheLongest(t *testing.T) {
	x := func(n int) string { return strings.Repeat("x", n) }
	for _, l := range [][]string{{x(250)}, {x(249), ""}, {"", x(249)}, {x(200), x(49)}, {x(100), x(100), x(48)}, make([]string, 251)} {
		if got, e := key.Join(l); got != strings.Join(l, "/") || len(got) != 250 || e != api.OK {
			t.Errorf("Join(%q) = %q, %d", l, got, e)
		}
	}
	for _, l := range [][]string{{x(251)}, {x(250), ""}, {"", x(250)}, {x(200), x(50)}, {x(100), x(100), x(49)}, make([]string, 252)} {
		if got, e := key.Join(l); got != "" || e != api.ErrArg {
			t.Errorf("Join(%q) = %q, %d, want ErrArg", l, got, e)
		}
	}
}

// P2.2: no segments, segments with slashes, and segments that make no key.
func TestJoinOfNoSegments(t *testing.T) {
	for _, l := range [][]string{nil, {}, {""}, {"/"}, {"a/b"}, {"/a"}, {"a", "b/"}, {"a", "/", "b"}, {"a/", strings.Repeat("x", 250)}, {strings.Repeat("x", 250), "/"}} {
		if got, e := key.Join(l); got != "" || e != api.ErrArg {
			t.Errorf("Join(%q) = %q, %d, want ErrArg", l, got, e)
		}
	}
}

// P2.2, P1: one long string that is a segment many times.
func TestJoinOfOneLongString(t *testing.T) {
	l := slices.Repeat([]string{strings.Repeat("x", 1<<20)}, 2000)
	if got, e := key.Join(l); got != "" || e != api.ErrArg {
		t.Errorf("Join of long segments = %d bytes, %d, want ErrArg", len(got), e)
	}
}

// manyTags returns some different tags, from the last one to the first one.
func manyTags(n int) []string {
	var out []string
	for i := range n {
		out = append(out, "tag"+string([]byte{byte('a' + n - 1 - i)}))
	}
	return out
}

// P2.3: the order of bytes, the same tag several times, and the longest tags.
func TestTags(t *testing.T) {
	long := strings.Repeat("x", 64)
	for _, c := range []struct{ l, want []string }{
		{nil, nil},
		{[]string{}, nil},
		{[]string{"a"}, []string{"a"}},
		{[]string{"a", "a", "a"}, []string{"a"}},
		{[]string{"b", "a", "b"}, []string{"a", "b"}},
		{[]string{"a", "B", "ab", "\xff", "a", "\x00"}, []string{"\x00", "B", "a", "ab", "\xff"}},
		{[]string{"é", "z", "a/b", "a b"}, []string{"a b", "a/b", "z", "é"}},
		{[]string{"10", "9", "1"}, []string{"1", "10", "9"}},
		{[]string{long, long[:63], "y"}, []string{long[:63], long, "y"}},
	} {
		before := slices.Clone(c.l)
		got, e := key.Tags(c.l)
		if !slices.Equal(got, c.want) || e != api.OK {
			t.Errorf("Tags(%q) = %q, %d, want %q", before, got, e, c.want)
		}
		if !slices.Equal(c.l, before) {
			t.Errorf("Tags has changed %q to %q", before, c.l)
		}
	}
}

// P2.3: 16 different tags are not too many, however often they are there; 17 are.
func TestTagsOfMany(t *testing.T) {
	l := manyTags(16)
	want := slices.Clone(l)
	slices.Reverse(want)
	for _, n := range []int{1, 2, 100} {
		if got, e := key.Tags(slices.Repeat(l, n)); !slices.Equal(got, want) || e != api.OK {
			t.Errorf("Tags of 16 tags, %d times = %q, %d", n, got, e)
		}
	}
	for _, n := range []int{17, 18, 26} {
		if got, e := key.Tags(manyTags(n)); got != nil || e != api.ErrLong {
			t.Errorf("Tags of %d tags = %q, %d, want ErrLong", n, got, e)
		}
	}
}

// P2.3: a string that is no tag comes before too many tags, wherever it is.
func TestTagsOfNoTags(t *testing.T) {
	for _, bad := range []string{"", strings.Repeat("x", 65), strings.Repeat("x", 250)} {
		for _, n := range []int{0, 1, 16, 17} {
			for i := range n + 1 {
				if got, e := key.Tags(slices.Insert(manyTags(n), i, bad)); got != nil || e != api.ErrArg {
					t.Errorf("Tags of %d tags and %q at %d = %q, %d, want ErrArg", n, bad, i, got, e)
				}
			}
		}
	}
}

// P2.3: what was handed out before is not changed by what is handed out later.
func TestTagsAreNew(t *testing.T) {
	l := []string{"a", "b"}
	one, _ := key.Tags(l)
	two, _ := key.Tags(l)
	one[0], l[1] = "x", "y"
	if !slices.Equal(two, []string{"a", "b"}) || !slices.Equal(one, []string{"x", "b"}) {
		t.Errorf("results share memory: %q, %q, %q", l, one, two)
	}
}

// wantText returns the text of a byte after the definition, with digits that are reckoned instead of looked up.
func wantText(c byte) string {
	if c >= '!' && c <= '~' && c != '%' && c != '"' {
		return string([]byte{c})
	}
	out := []byte{'%'}
	for _, d := range []byte{c / 16, c % 16} {
		if d < 10 {
			out = append(out, '0'+d)
		} else {
			out = append(out, 'a'+d-10)
		}
	}
	return string(out)
}

// P2.4: each byte alone and among others.
func TestTextOfEachByte(t *testing.T) {
	for i, s := range allBytes() {
		want := wantText(byte(i))
		if got, e := key.Text(s); got != want || e != api.OK {
			t.Errorf("Text(%q) = %q, %d, want %q", s, got, e, want)
		}
		if got, e := key.Text("a" + s + s + "0"); got != "a"+want+want+"0" || e != api.OK {
			t.Errorf("Text of a, %q twice, 0 = %q, %d", s, got, e)
		}
		if got, e := key.Parse(want); got != s || e != api.OK {
			t.Errorf("Parse(%q) = %q, %d, want %q", want, got, e, s)
		}
		if got, e := key.Parse("a" + want + want + "0"); got != "a"+s+s+"0" || e != api.OK {
			t.Errorf("Parse of a, %q twice, 0 = %q, %d", want, got, e)
		}
	}
}

// P2.4: the examples of the chapter, and texts that look like escaped ones.
func TestTextAndParse(t *testing.T) {
	for _, c := range []struct{ s, text string }{
		{"", `""`},
		{"a b%", "a%20b%25"},
		{"a b", "a%20b"},
		{"\xc3\xa4", "%c3%a4"},
		{`"`, "%22"},
		{`""`, "%22%22"},
		{"%41", "%2541"},
		{"%%", "%25%25"},
		{"user/7/name", "user/7/name"},
		{"!~", "!~"},
		{"\x00\x20\x7f\xff", "%00%20%7f%ff"},
		{strings.Repeat("x", 250), strings.Repeat("x", 250)},
		{strings.Repeat("\xff", 250), strings.Repeat("%ff", 250)},
	} {
		if got, e := key.Text(c.s); got != c.text || e != api.OK {
			t.Errorf("Text(%q) = %q, %d, want %q", c.s, got, e, c.text)
		}
		if got, e := key.Parse(c.text); got != c.s || e != api.OK {
			t.Errorf("Parse(%q) = %q, %d, want %q", c.text, got, e, c.s)
		}
	}
}

// P2.4: strings that are too long have no text.
func TestTextOfTooLong(t *testing.T) {
	for _, s := range []string{strings.Repeat("x", 251), strings.Repeat("\x00", 251), strings.Repeat("x", 1000)} {
		if got, e := key.Text(s); got != "" || e != api.ErrLong {
			t.Errorf("Text of %d bytes = %q, %d, want ErrLong", len(s), got, e)
		}
	}
}

// P2.4: what is cut off, has no digits or capital ones, escapes what needs none, has bytes that are not written as themselves, or is too long.
func TestParseOfNoTexts(t *testing.T) {
	for _, s := range []string{
		"", `"`, `"""`, `""a`, `a""`, `a"b`, ` ""`,
		"%", "%2", "a%", "a%2", "%20%", "%20%2", "%%20", "%2%20",
		"%zz", "%2g", "%g0", "%2F", "%C3", "%c3%A4", "%2:", "%/0", "%0`", "% 0", "%+1", "%-1", "%0x",
		"%41", "%61", "%30", "%2f", "%21", "%7e", "%24", "%26", "%23", "a%41",
		"a b", "\xc3", "é", "\x00", "\x7f", "a\n", "\t", "\x20", "\x80", "\xff",
		strings.Repeat("x", 251), strings.Repeat("%00", 251), strings.Repeat("x", 250) + "%00", strings.Repeat("%00", 250) + "x", strings.Repeat("x", 250) + "%", strings.Repeat("x", 1<<20),
	} {
		if got, e := key.Parse(s); got != "" || e != api.ErrFormat {
			t.Errorf("Parse(%q) = %q, %d, want ErrFormat", s, got, e)
		}
	}
}

// P2.4: of all that could stand for one byte, only its text is accepted.
func TestParseOfEachEscape(t *testing.T) {
	for _, a := range allBytes() {
		for _, b := range allBytes() {
			text := "%" + a + b
			s, e := key.Parse(text)
			if e == api.OK && (len(s) != 1 || wantText(s[0]) != text) || e != api.OK && (s != "" || e != api.ErrFormat) {
				t.Errorf("Parse(%q) = %q, %d", text, s, e)
			}
		}
	}
}

// P2.5: Join inverts Segments; a key has its folders as prefixes, and one fewer than segments.
func TestKeysOfTheirParts(t *testing.T) {
	for _, k := range someKeys() {
		l, e := key.Segments(k)
		if e != api.OK || len(l) != strings.Count(k, "/")+1 {
			t.Errorf("Segments(%q) = %q, %d", k, l, e)
		}
		if got, e := key.Join(l); got != k || e != api.OK {
			t.Errorf("Join(%q) = %q, %d, want %q", l, got, e, k)
		}
		f, e := key.Folders(k)
		if e != api.OK || len(f) != len(l)-1 {
			t.Errorf("Folders(%q) = %q, %d, with %d segments", k, f, e, len(l))
		}
		before := ""
		for _, p := range f {
			if !key.Has(k, p) || !key.ValidPrefix(p) || len(p) <= len(before) || !strings.HasSuffix(p, "/") {
				t.Errorf("Folders(%q) = %q", k, f)
			}
			before = p
		}
	}
}

// P2.5: Segments inverts Join.
func TestSegmentsOfJoined(t *testing.T) {
	some := []string{"", "a", "b%", "\x00", "\xff\xff", "..", strings.Repeat("x", 80)}
	for _, a := range some {
		for _, b := range some {
			for _, c := range some {
				l := []string{a, b, c}
				k, e := key.Join(l)
				got, f := key.Segments(k)
				if e != api.OK || f != api.OK || !slices.Equal(got, l) {
					t.Errorf("Segments of Join(%q) = %q, %d, %d", l, got, e, f)
				}
			}
		}
	}
}

// P2.5: Parse inverts Text, for strings of all bytes and of all lengths.
func TestParseOfText(t *testing.T) {
	all := strings.Join(allBytes(), "")
	for n := range 251 {
		for _, s := range []string{all[:n], all[256-n:], strings.Repeat("%", n), strings.Repeat(`"`, n)} {
			text, e := key.Text(s)
			got, f := key.Parse(text)
			if e != api.OK || f != api.OK || got != s {
				t.Errorf("Parse of Text(%q) = %q, %d, %d", s, got, e, f)
			}
		}
	}
}

// P2.5: Text inverts Parse, wherever it accepts a text.
func TestTextOfParsed(t *testing.T) {
	signs := []string{`"`, "%", "0", "2", "4", "5", "a", "f", "F", " ", "/", "\xff"}
	texts := []string{""}
	for range 5 {
		var longer []string
		for _, s := range texts {
			for _, c := range signs {
				longer = append(longer, s+c)
			}
		}
		texts = longer
		for _, text := range texts {
			s, e := key.Parse(text)
			if e != api.OK {
				continue
			}
			if got, e := key.Text(s); got != text || e != api.OK {
				t.Fatalf("Text of Parse(%q) = %q, %d", text, got, e)
			}
		}
	}
}

// P2.5: Tags of a list in order is the list, and the order of what is given does not matter.
func TestTagsOfTags(t *testing.T) {
	for _, l := range [][]string{nil, {"b", "a", "b"}, {"\xff", "", "a"}, {"a", "ab", "A", "é"}, manyTags(16), slices.Repeat(manyTags(9), 3)} {
		one, e := key.Tags(l)
		two, f := key.Tags(one)
		if !slices.Equal(one, two) || e == api.OK && f != api.OK || !slices.IsSortedFunc(two, strings.Compare) {
			t.Errorf("Tags(%q) = %q, %d, and Tags of it = %q, %d", l, one, e, two, f)
		}
		back := slices.Clone(l)
		slices.Reverse(back)
		if got, f := key.Tags(back); !slices.Equal(got, one) || f != e {
			t.Errorf("Tags(%q) = %q, %d, want %q, %d", back, got, f, one, e)
		}
	}
}

// P1: equal calls have equal results, and long arguments come to an end.
func TestAgainAndLong(t *testing.T) {
	long := string(bytes.Repeat([]byte{0xff}, 1<<20))
	if key.Common(long, long+"x") != 1<<20 || !key.Has(long+"x", long) || key.Valid(long) || key.ValidTag(long) || key.ValidPrefix(long) {
		t.Error("a long string is not told right")
	}
	if _, e := key.Tags(slices.Repeat([]string{"a"}, 1<<20)); e != api.OK {
		t.Errorf("Tags of a long list: %d", e)
	}
	first, _ := key.Tags(manyTags(16))
	for range 100 {
		if got, e := key.Tags(manyTags(16)); !slices.Equal(got, first) || e != api.OK {
			t.Fatalf("Tags = %q, %d, and %q before", got, e, first)
		}
	}
}
