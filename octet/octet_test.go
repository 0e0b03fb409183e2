package octet_test

import (
	"encoding/binary"
	"math"
	"strings"
	"testing"

	"billet/api"
	"billet/octet"
)

const highest = math.MaxUint64

// tails are bytes that may follow an encoding, among them some that would go
// on with a varint.
func tails() []string {
	return []string{"", "\x00", "\x01", "x", "\x7f", "\x80", "\x80\x00", strings.Repeat("\xff", 12)}
}

// numbers are the least, the greatest, and those on both sides of each power
// of two.
func numbers() []uint64 {
	l := []uint64{0, 300, 0x0123456789abcdef, highest}
	for i := range 64 {
		l = append(l, 1<<i-1, 1<<i, 1<<i+1)
	}
	return l
}

// P1.1

func TestFixed(t *testing.T) {
	for _, c := range []struct {
		v    uint64
		n    int
		want string
	}{
		{0, 1, "\x00"},
		{0, 8, "\x00\x00\x00\x00\x00\x00\x00\x00"},
		{1, 1, "\x01"},
		{255, 1, "\xff"},
		{256, 2, "\x01\x00"},
		{258, 3, "\x00\x01\x02"},
		{0x01020304, 4, "\x01\x02\x03\x04"},
		{0x0102030405060708, 8, "\x01\x02\x03\x04\x05\x06\x07\x08"},
		{highest, 8, "\xff\xff\xff\xff\xff\xff\xff\xff"},
	} {
		if s, err := octet.Fixed(c.v, c.n); s != c.want || err != api.OK {
			t.Errorf("Fixed(%d, %d) = %q, %d; want %q", c.v, c.n, s, err, c.want)
		}
		if v, err := octet.Number(c.want); v != c.v || err != api.OK {
			t.Errorf("Number(%q) = %d, %d; want %d", c.want, v, err, c.v)
		}
	}
}

func TestFixedTakesWhatFits(t *testing.T) {
	for n := 1; n <= 8; n++ {
		greatest := uint64(highest) >> (64 - 8*n)
		s, err := octet.Fixed(greatest, n)
		if s != strings.Repeat("\xff", n) || err != api.OK {
			t.Errorf("Fixed(%d, %d) = %q, %d", greatest, n, s, err)
		}
		if n == 8 {
			continue
		}
		for _, v := range []uint64{greatest + 1, greatest + 2, highest} {
			if s, err := octet.Fixed(v, n); s != "" || err != api.ErrArg {
				t.Errorf("Fixed(%d, %d) = %q, %d; want ErrArg", v, n, s, err)
			}
		}
	}
}

func TestFixedRejectsOtherSizes(t *testing.T) {
	for _, n := range []int{0, -1, 9, 10, 64, math.MinInt, math.MaxInt} {
		for _, v := range []uint64{0, 1, highest} {
			if s, err := octet.Fixed(v, n); s != "" || err != api.ErrArg {
				t.Errorf("Fixed(%d, %d) = %q, %d; want ErrArg", v, n, s, err)
			}
		}
	}
}

func TestFixedAndNumberInverse(t *testing.T) {
	for _, v := range numbers() {
		for n := 1; n <= 8; n++ {
			s, err := octet.Fixed(v, n)
			if err != api.OK {
				continue
			}
			if len(s) != n {
				t.Errorf("Fixed(%d, %d) has %d bytes", v, n, len(s))
			}
			if got, err := octet.Number(s); got != v || err != api.OK {
				t.Errorf("Number(%q) = %d, %d; want %d", s, got, err, v)
			}
		}
	}
}

func TestNumberRejectsOtherSizes(t *testing.T) {
	for _, n := range []int{0, 9, 10, 100} {
		for _, b := range []string{"\x00", "\x01"} {
			s := strings.Repeat(b, n)
			if v, err := octet.Number(s); v != 0 || err != api.ErrArg {
				t.Errorf("Number(%q) = %d, %d; want ErrArg", s, v, err)
			}
		}
	}
}

// P1.2

func TestChain(t *testing.T) {
	for _, c := range []struct {
		v    uint64
		want string
	}{
		{0, "\x00"},
		{1, "\x01"},
		{127, "\x7f"},
		{128, "\x80\x01"},
		{300, "\xac\x02"},
		{16383, "\xff\x7f"},
		{16384, "\x80\x80\x01"},
		{1<<63 - 1, strings.Repeat("\xff", 8) + "\x7f"},
		{1 << 63, strings.Repeat("\x80", 9) + "\x01"},
		{highest, strings.Repeat("\xff", 9) + "\x01"},
	} {
		if s := octet.Chain(c.v); s != c.want {
			t.Errorf("Chain(%d) = %q; want %q", c.v, s, c.want)
		}
	}
}

// The library's varints are the same as long as they are shortest, which those
// that it encodes always are.
func TestChainAgreesWithLibrary(t *testing.T) {
	for _, v := range numbers() {
		want := string(binary.AppendUvarint(nil, v))
		if s := octet.Chain(v); s != want {
			t.Errorf("Chain(%d) = %q; want %q", v, s, want)
		}
	}
}

func TestUnchain(t *testing.T) {
	full := strings.Repeat("\x80", 9)
	for _, c := range []struct {
		s    string
		v    uint64
		n    int
		want api.Errno
	}{
		{"\x00", 0, 1, api.OK},
		{"\x7f", 127, 1, api.OK},
		{"\xac\x02", 300, 2, api.OK},
		{"\xac\x02x", 300, 2, api.OK},
		{"\x80\x80\x01", 16384, 3, api.OK},
		{full + "\x01", 1 << 63, 10, api.OK},
		{strings.Repeat("\xff", 9) + "\x01", highest, 10, api.OK},
		// It ends too early.
		{"", 0, 0, api.ErrShort},
		{"\x80", 0, 0, api.ErrShort},
		{"\xff", 0, 0, api.ErrShort},
		{full, 0, 0, api.ErrShort},
		// The highest bit is set in the first ten bytes.
		{full + "\x80", 0, 0, api.ErrForm},
		{full + "\x81", 0, 0, api.ErrForm},
		{full + "\x80\x00", 0, 0, api.ErrForm},
		{full + "\x81\x01", 0, 0, api.ErrForm},
		{strings.Repeat("\xff", 20), 0, 0, api.ErrForm},
		// A tenth byte is above 1.
		{full + "\x02", 0, 0, api.ErrForm},
		{full + "\x03", 0, 0, api.ErrForm},
		{full + "\x7f", 0, 0, api.ErrForm},
		// The last byte of several is 0.
		{"\x80\x00", 0, 0, api.ErrForm},
		{"\xff\x00", 0, 0, api.ErrForm},
		{"\xac\x82\x00", 0, 0, api.ErrForm},
		{full[:8] + "\x00", 0, 0, api.ErrForm},
		{full + "\x00", 0, 0, api.ErrForm},
	} {
		v, n, err := octet.Unchain(c.s)
		if v != c.v || n != c.n || err != c.want {
			t.Errorf("Unchain(%q) = %d, %d, %d; want %d, %d, %d", c.s, v, n, err, c.v, c.n, c.want)
		}
	}
}

// Whatever is decoded was encoded as short as possible: it is what Chain
// returns.
func TestUnchainTakesOnlyChains(t *testing.T) {
	for i := range 1 << 16 {
		for _, front := range []string{"", "\x80", "\xff\x80\x93\xa1\xff\x80\xff"} {
			s := front + string([]byte{byte(i), byte(i >> 8)})
			v, n, err := octet.Unchain(s)
			long := binary.PutUvarint(make([]byte, 10), v)
			switch {
			case err == api.OK && (s[:n] != octet.Chain(v) || n != long):
				t.Fatalf("Unchain(%q) = %d, %d", s, v, n)
			case err != api.OK && (v != 0 || n != 0):
				t.Fatalf("Unchain(%q) = %d, %d beside %d", s, v, n, err)
			case err == api.ErrShort && s[len(s)-1] < 0x80:
				t.Fatalf("Unchain(%q) = ErrShort", s)
			case err == api.ErrForm && !strings.Contains(s, "\x00"):
				t.Fatalf("Unchain(%q) = ErrForm", s)
			}
		}
	}
}

// P1.3

func TestText(t *testing.T) {
	for _, c := range []struct{ s, want string }{
		{"", "\x00"},
		{"abc", "\x03abc"},
		{"\x00", "\x01\x00"},
		{"ä\xff", "\x03ä\xff"},
		{strings.Repeat("a", 127), "\x7f" + strings.Repeat("a", 127)},
		{strings.Repeat("a", 128), "\x80\x01" + strings.Repeat("a", 128)},
		{strings.Repeat("a", 300), "\xac\x02" + strings.Repeat("a", 300)},
	} {
		if s := octet.Text(c.s); s != c.want {
			t.Errorf("Text(%q) = %q; want %q", c.s, s, c.want)
		}
	}
}

func TestUntext(t *testing.T) {
	full := strings.Repeat("\x80", 9)
	for _, c := range []struct {
		s    string
		most int
		text string
		n    int
		want api.Errno
	}{
		{"\x03abc", 3, "abc", 4, api.OK},
		{"\x03abc", math.MaxInt, "abc", 4, api.OK},
		{"\x03abcdef", 3, "abc", 4, api.OK},
		{"\x00", 0, "", 1, api.OK},
		{"\x00abc", 0, "", 1, api.OK},
		{"\x80\x01" + strings.Repeat("b", 128), 128, strings.Repeat("b", 128), 130, api.OK},
		// The errors of Unchain.
		{"", 9, "", 0, api.ErrShort},
		{"\x80", 9, "", 0, api.ErrShort},
		{"\x80\x00", 9, "", 0, api.ErrForm},
		{full + "\x02", 9, "", 0, api.ErrForm},
		{"\x80", -1, "", 0, api.ErrShort},
		{"\x83\x00abc", -1, "", 0, api.ErrForm},
		// It is longer than it may be, whether or not it is all there.
		{"\x03abc", 2, "", 0, api.ErrLong},
		{"\x03ab", 2, "", 0, api.ErrLong},
		{"\x03abc", 0, "", 0, api.ErrLong},
		{"\x03abc", -1, "", 0, api.ErrLong},
		{"\x00", -1, "", 0, api.ErrLong},
		{"\x00", math.MinInt, "", 0, api.ErrLong},
		{octet.Chain(1 << 63), math.MaxInt, "", 0, api.ErrLong},
		{octet.Chain(highest), math.MaxInt, "", 0, api.ErrLong},
		// Fewer bytes follow.
		{"\x03ab", 3, "", 0, api.ErrShort},
		{"\x01", 3, "", 0, api.ErrShort},
		{octet.Chain(1<<63-1) + "abc", math.MaxInt, "", 0, api.ErrShort},
	} {
		text, n, err := octet.Untext(c.s, c.most)
		if text != c.text || n != c.n || err != c.want {
			t.Errorf("Untext(%q, %d) = %q, %d, %d; want %q, %d, %d", c.s, c.most, text, n, err, c.text, c.n, c.want)
		}
	}
}

// P1.5

func TestUnchainDecodesChain(t *testing.T) {
	for _, v := range numbers() {
		for _, tail := range tails() {
			s := octet.Chain(v)
			got, n, err := octet.Unchain(s + tail)
			if got != v || n != len(s) || err != api.OK {
				t.Errorf("Unchain(%q + %q) = %d, %d, %d; want %d, %d", s, tail, got, n, err, v, len(s))
			}
		}
	}
}

func TestUntextDecodesText(t *testing.T) {
	for _, n := range []int{0, 1, 2, 126, 127, 128, 129, 300, 16383, 16384, 16385} {
		for _, b := range []string{"\x00", "a", "\x80", "\xff"} {
			for _, tail := range tails() {
				text := strings.Repeat(b, n)
				s := octet.Text(text)
				got, size, err := octet.Untext(s+tail, n)
				if got != text || size != len(s) || err != api.OK {
					t.Errorf("Untext of the Text of %d times %q, with %q behind, has length %d, error %d", n, b, tail, size, err)
				}
			}
		}
	}
}
