package text_test

import (
	"math"
	"slices"
	"strings"
	"testing"
	"unicode"
	"unicode/utf8"

	"billet/text"
)

// The letters of the kinds, each upper-case one at the place of its lower-case
// one, and what else a name may contain.
const (
	lowers = "abcdefghijklmnopqrstuvwxyz" +
		"àáâãäåæçèéêëìíîïðñòóôõöøùúûüýþ" +
		"αβγδεζηθικλμνξοπρστυφχψω" +
		"абвгдежзийклмнопрстуфхцчшщъыьэюя"
	uppers = "ABCDEFGHIJKLMNOPQRSTUVWXYZ" +
		"ÀÁÂÃÄÅÆÇÈÉÊËÌÍÎÏÐÑÒÓÔÕÖØÙÚÛÜÝÞ" +
		"ΑΒΓΔΕΖΗΘΙΚΛΜΝΞΟΠΡΣΤΥΦΧΨΩ" +
		"АБВГДЕЖЗИЙКЛМНОПРСТУФХЦЧШЩЪЫЬЭЮЯ"
	digits = "0123456789"
	signs  = "-."
)

// broken are strings that are not, or not all, valid encodings of runes: lone
// bytes, encodings cut short, longer than need be, of surrogates, and above
// the greatest rune.
var broken = []string{
	"\xff", "\x80", "\xc3", "\xce", "\xe2\x82", "\xf0\x9f\x98", "\xc0\x80", "\xc1\x81",
	"\xe0\x80\x80", "\xed\xa0\x80", "\xf4\x90\x80\x80", "\xff\xfe\xfd",
}

// texts are the strings on which the properties are held: each rune of a kind,
// ordinary names, strings that are none, and broken ones in all places.
func texts() []string {
	l := []string{"", " ", "a", "A", "a b", "ÄB-1", "Größe", "ΟΔΟΣ", "οδος", "ОГОНЬ", "日本語", "a\u0308", "\ufffd", "\x00", "😀", "İıſK", "ÿŸёЁ"}
	for _, r := range lowers + uppers + digits + signs {
		l = append(l, string(r))
	}
	for _, b := range broken {
		l = append(l, b, "a"+b, b+"a", "Ä"+b+"я", strings.Repeat(b, 20))
	}
	return append(l, lowers, uppers, strings.Repeat("Ж.", 500))
}

// runes decodes the runes of s one by one, without a range over a string.
func runes(s string) []rune {
	var l []rune
	for len(s) > 0 {
		r, n := utf8.DecodeRuneInString(s)
		l = append(l, r)
		s = s[n:]
	}
	return l
}

// P3.1

// kind is what Kind should return.
func kind(r rune) int {
	switch {
	case r == utf8.RuneError || !utf8.ValidRune(r):
		return 0
	case strings.ContainsRune(lowers, r):
		return 1
	case strings.ContainsRune(digits, r):
		return 2
	case strings.ContainsRune(signs, r):
		return 3
	case strings.ContainsRune(uppers, r):
		return 4
	}
	return 0
}

func TestKindOfEveryRune(t *testing.T) {
	for r := rune(-1000); r <= unicode.MaxRune+1000; r++ {
		if k := text.Kind(r); k != kind(r) {
			t.Errorf("Kind(%U) = %d; want %d", r, k, kind(r))
		}
	}
}

func TestKindAtTheEndsOfTheRanges(t *testing.T) {
	for _, c := range []struct {
		kind  int
		runes []rune
	}{
		{1, []rune{'a', 'z', 0xe0, 0xf6, 0xf8, 0xfe, 0x3b1, 0x3c1, 0x3c3, 0x3c9, 0x430, 0x44f}},
		{2, []rune{'0', '9'}},
		{3, []rune{'-', '.'}},
		{4, []rune{'A', 'Z', 0xc0, 0xd6, 0xd8, 0xde, 0x391, 0x3a1, 0x3a3, 0x3a9, 0x410, 0x42f}},
		{0, []rune{'@', '[', '`', '{', '/', ':', ',', 0xbf, 0xd7, 0xdf, 0xf7, 0xff}},
		{0, []rune{0x390, 0x3a2, 0x3aa, 0x3b0, 0x3c2, 0x3ca, 0x40f, 0x450}},
	} {
		for _, r := range c.runes {
			if k := text.Kind(r); k != c.kind {
				t.Errorf("Kind(%U) = %d; want %d", r, k, c.kind)
			}
		}
	}
}

// Values of type rune that are no runes, among them those that lie a power of
// two from a letter, and those to which 32 can't be added.
func TestKindOfNoRunes(t *testing.T) {
	l := []rune{-1, -32, unicode.MaxRune + 1, math.MinInt32, 0xd800, 0xdfff, unicode.MaxRune, utf8.RuneError}
	for i := range rune(100) {
		l = append(l, math.MinInt32+i, math.MaxInt32-i)
	}
	for _, r := range lowers + uppers + digits + signs {
		l = append(l, -r, r|math.MinInt32, r|1<<30, r|1<<21)
	}
	for _, r := range l {
		if k := text.Kind(r); k != 0 {
			t.Errorf("Kind(%d) = %d; want 0", r, k)
		}
	}
}

func TestUpperLies32BelowLower(t *testing.T) {
	l, u := runes(lowers), runes(uppers)
	if len(l) != len(u) {
		t.Fatalf("%d lower-case letters and %d upper-case ones", len(l), len(u))
	}
	for i := range l {
		if l[i]-u[i] != 32 || text.Kind(l[i]) != 1 || text.Kind(u[i]) != 4 {
			t.Errorf("%U of kind %d and %U of kind %d", l[i], text.Kind(l[i]), u[i], text.Kind(u[i]))
		}
	}
}

// P3.2

func TestName(t *testing.T) {
	for _, s := range []string{
		"a", "0", "-", ".", "..", "äb-1", "job-7.x", "grö", "σοφια", "работа-1", "þ", "0123456789abcdef",
		strings.Repeat("a", 16), strings.Repeat("ö", 16), strings.Repeat("ω", 15) + "-",
	} {
		if !text.Name(s) {
			t.Errorf("Name(%q) = false", s)
		}
	}
	for _, s := range []string{
		"", " ", "a b", "a ", " a", "A", "aB", "Äb", "bÄ", "a_b", "a/b", "a,b", "a:b", "straße", "a÷b", "οδος", "ёж", "ÿ",
		"a\x00", "\x00", "a\n", "日", "a\ufffd", "\ufffd", "a\u0308",
	} {
		if text.Name(s) {
			t.Errorf("Name(%q) = true", s)
		}
	}
}

func TestNameHasNoBrokenEncoding(t *testing.T) {
	for _, b := range broken {
		for _, s := range []string{b, "a" + b, b + "a", "a" + b + "a"} {
			if text.Name(s) {
				t.Errorf("Name(%q) = true", s)
			}
		}
	}
}

// The limit is one of runes, not of bytes.
func TestNameHasUpTo16Runes(t *testing.T) {
	for _, r := range lowers + digits + signs {
		for n := range 40 {
			s := strings.Repeat(string(r), n)
			if got, want := text.Name(s), 1 <= n && n <= 16; got != want {
				t.Errorf("Name(%q), of %d runes, = %t", s, n, got)
			}
		}
	}
	if text.Name(strings.Repeat("a", 1<<20)) {
		t.Error("a name has 1048576 runes")
	}
}

// Each place of a name counts.
func TestNameOfOnlyKinds1To3(t *testing.T) {
	for r := range rune(0x500) {
		for at := range 16 {
			l := []rune("abcdefgh-ijkl.m0")
			l[at] = r
			want := 1 <= kind(r) && kind(r) <= 3
			if s := string(l); text.Name(s) != want {
				t.Errorf("Name(%q) = %t", s, !want)
			}
		}
	}
}

func TestFold(t *testing.T) {
	for _, c := range []struct{ s, want string }{
		{"", ""},
		{"ÄB-1", "äb-1"},
		{"äb-1", "äb-1"},
		{"a b", "a b"},
		{"A_Z@[`{", "a_z@[`{"},
		{"straßE×÷", "straße×÷"},
		{"ΟΔΟΣ", "οδοσ"},
		{"ς", "ς"},
		// Letters that have no kind stay as they are.
		{"ŸЁİΆ", "ŸЁİΆ"},
		{"\x00日😀", "\x00日😀"},
		// Each byte of a broken encoding is a rune.
		{"ÄΣЯz\xff", "äσяz\ufffd"},
		{"\xff\xfe", "\ufffd\ufffd"},
		{"A\xc3B", "a\ufffdb"},
		{"\xe2\x82A", "\ufffd\ufffda"},
		{"\xed\xa0\x80", "\ufffd\ufffd\ufffd"},
		{"\ufffd", "\ufffd"},
		{uppers, lowers},
		{lowers, lowers},
	} {
		if s := text.Fold(c.s); s != c.want {
			t.Errorf("Fold(%q) = %q; want %q", c.s, s, c.want)
		}
	}
}

func TestFoldOfEveryRune(t *testing.T) {
	for r := range rune(unicode.MaxRune + 1) {
		// string turns surrogates into U+FFFD.
		want := string(r)
		if kind(r) == 4 {
			want = string(r + 32)
		}
		if s := text.Fold(string(r)); s != want {
			t.Errorf("Fold(%q) = %q; want %q", string(r), s, want)
		}
	}
}

func TestCount(t *testing.T) {
	for _, c := range []struct {
		s    string
		want int
	}{
		{"", 0}, {"a", 1}, {"ä", 1}, {"äσ\xff\xff", 4}, {"日本語", 3}, {"😀", 1}, {"a\u0308", 2}, {"\x00\x00", 2}, {"\ufffd", 1},
		{"\xc3", 1}, {"\xe2\x82", 2}, {"\xf0\x9f\x98", 3}, {"\xc3a", 2}, {"\xc0\x80", 2}, {"\xed\xa0\x80", 3},
		{strings.Repeat("я", 10000), 10000},
	} {
		if n := text.Count(c.s); n != c.want {
			t.Errorf("Count(%q) = %d; want %d", c.s, n, c.want)
		}
	}
	for _, s := range texts() {
		if n := text.Count(s); n != len(runes(s)) {
			t.Errorf("Count(%q) = %d; want %d", s, n, len(runes(s)))
		}
	}
}

func TestHead(t *testing.T) {
	for _, c := range []struct {
		s    string
		n    int
		want string
	}{
		{"äσя", 0, ""},
		{"äσя", 1, "ä"},
		{"äσя", 2, "äσ"},
		{"äσя", 3, "äσя"},
		{"äσя", 4, "äσя"},
		{"äσя", 6, "äσя"},
		{"äσя", math.MaxInt, "äσя"},
		{"äσя", -1, ""},
		{"äσя", math.MinInt, ""},
		{"", 0, ""},
		{"", 1, ""},
		{"", -1, ""},
		{"", math.MaxInt, ""},
		{"", math.MinInt, ""},
		{"a😀b", 2, "a😀"},
		// It is a prefix: its bytes stay as they are, valid or not.
		{"\xff\xfea", 1, "\xff"},
		{"\xff\xfea", 2, "\xff\xfe"},
		{"\xe2\x82a", 1, "\xe2"},
		{"\xe2\x82a", 2, "\xe2\x82"},
		{"ä\xc3", 2, "ä\xc3"},
		{"ä\xc3", 9, "ä\xc3"},
		{"\ufffdA", 1, "\ufffd"},
		{"ABC", 2, "AB"},
	} {
		if s := text.Head(c.s, c.n); s != c.want {
			t.Errorf("Head(%q, %d) = %q; want %q", c.s, c.n, s, c.want)
		}
	}
}

func TestHeadHasTheFirstRunes(t *testing.T) {
	for _, s := range texts() {
		l := runes(s)
		for n := -2; n < len(l)+3; n++ {
			head := text.Head(s, n)
			want := l[:min(max(n, 0), len(l))]
			if !strings.HasPrefix(s, head) || !slices.Equal(runes(head), want) {
				t.Errorf("Head(%q, %d) = %q", s, n, head)
			}
		}
	}
}

// P3.3

func TestFoldOfANameIsTheName(t *testing.T) {
	names := 0
	for _, s := range texts() {
		for _, s := range []string{s, text.Fold(s), text.Head(s, 16), text.Head(text.Fold(s), 16)} {
			if !text.Name(s) {
				continue
			}
			names++
			if folded := text.Fold(s); folded != s {
				t.Errorf("Fold(%q) = %q", s, folded)
			}
		}
	}
	if names < len(runes(lowers)) {
		t.Errorf("only %d names were tried", names)
	}
}

func TestFoldIsIdempotent(t *testing.T) {
	for _, s := range texts() {
		once := text.Fold(s)
		if twice := text.Fold(once); twice != once {
			t.Errorf("Fold(%q) = %q, whose Fold is %q", s, once, twice)
		}
	}
}

func TestFoldPreservesTheNumberOfRunes(t *testing.T) {
	for _, s := range texts() {
		folded := text.Fold(s)
		if len(runes(folded)) != len(runes(s)) || text.Count(folded) != text.Count(s) {
			t.Errorf("Fold(%q) = %q, of %d runes instead of %d", s, folded, len(runes(folded)), len(runes(s)))
		}
	}
}
