package sum_test

import (
	"hash/crc32"
	"math/bits"
	"slices"
	"strings"
	"testing"

	"billet/sum"
)

const ones = 1<<32 - 1

// texts are strings of several lengths, among them ones of bytes that are no
// UTF-8.
func texts() []string {
	l := []string{"", "\x00", "\xff", "a", "\x80\xfe", "123456789", "größer", strings.Repeat("\x00", 5)}
	var all []byte
	for i := range 256 {
		all = append(all, byte(i))
	}
	return append(l, string(all), mixed(48), mixed(1000))
}

// begins are initial values: the ends of the range, each single bit, and some
// in between.
func begins() []uint32 {
	l := []uint32{0, ones, 0x04c11db7, 0x0376e6e7, 0x12345678}
	for i := range 32 {
		l = append(l, 1<<i)
	}
	return l
}

// mixed returns n bytes that follow no simple pattern, always the same ones.
func mixed(n int) string {
	b := make([]byte, n)
	x := uint32(1)
	for i := range b {
		x = x*1664525 + 1013904223
		b[i] = byte(x >> 24)
	}
	return string(b)
}

// flipped returns s with the bits of pattern flipped, whose highest one stands
// at bit at of s. The bits of a byte are counted from its highest one on.
func flipped(s string, at int, pattern uint32) string {
	b := []byte(s)
	for i := range 32 {
		if pattern<<i>>31 == 1 {
			b[(at+i)/8] ^= 0x80 >> ((at + i) % 8)
		}
	}
	return string(b)
}

// library computes what Crc does by the library's CRC-32, in whose register
// and bytes the bits go the other way round, and which inverts its register
// before and after.
func library(begin uint32, s string) uint32 {
	b := []byte(s)
	for i := range b {
		b[i] = bits.Reverse8(b[i])
	}
	before := ^bits.Reverse32(begin)
	return bits.Reverse32(^crc32.Update(before, crc32.IEEETable, b))
}

// P2.1

func TestCrc(t *testing.T) {
	for _, c := range []struct {
		begin uint32
		s     string
		want  uint32
	}{
		// Nothing leaves the register as it is.
		{0, "", 0},
		{ones, "", ones},
		{0x12345678, "", 0x12345678},
		// Zeros move nothing out of an empty register.
		{0, "\x00", 0},
		{0, "\x00\x00\x00\x00\x00", 0},
		// A single bit is shifted out at the last of the eight steps.
		{0, "\x01", 0x04c11db7},
		{0, "\x02", 0x09823b6e},
		{1 << 24, "\x00", 0x04c11db7},
		// The byte and the register's highest bits cancel each other.
		{0x01000000, "\x01", 0},
		{0xff000000, "\xff", 0},
		// The lower bits only move.
		{0x00123456, "\x00", 0x12345600},
		{0xff123456, "\xff", 0x12345600},
		{ones, "123456789", 0x0376e6e7},
		{0, "123456789", 0x89a1897f},
	} {
		if got := sum.Crc(c.begin, c.s); got != c.want {
			t.Errorf("Crc(%08x, %q) = %08x; want %08x", c.begin, c.s, got, c.want)
		}
	}
}

func TestCrcAgreesWithLibrary(t *testing.T) {
	for _, begin := range begins() {
		for _, s := range texts() {
			if got, want := sum.Crc(begin, s), library(begin, s); got != want {
				t.Errorf("Crc(%08x, %q) = %08x; want %08x", begin, s, got, want)
			}
		}
		for i := range 256 {
			s := string([]byte{byte(i)})
			if got, want := sum.Crc(begin, s), library(begin, s); got != want {
				t.Errorf("Crc(%08x, %q) = %08x; want %08x", begin, s, got, want)
			}
		}
	}
}

func TestOf(t *testing.T) {
	for _, c := range []struct {
		l    []string
		want uint32
	}{
		{nil, ones},
		{[]string{}, ones},
		{[]string{""}, ones},
		{[]string{"", "", ""}, ones},
		{[]string{"123456789"}, 0x0376e6e7},
		{[]string{"1234", "56789"}, 0x0376e6e7},
		{[]string{"", "1", "", "2345678", "9", ""}, 0x0376e6e7},
		{strings.Split("123456789", ""), 0x0376e6e7},
		// Zeros count, unlike from the initial value 0 on.
		{[]string{"\x00"}, 0x4e08bfb4},
		{[]string{"\x00", "\x00"}, library(ones, "\x00\x00")},
		// These bytes take the whole register away.
		{[]string{"\xff\xff\xff\xff"}, 0},
		{[]string{"\xff", "\xff\xff\xff", "\x00"}, 0},
	} {
		if got := sum.Of(c.l...); got != c.want {
			t.Errorf("Of(%q) = %08x; want %08x", c.l, got, c.want)
		}
	}
	if got := sum.Of(); got != ones {
		t.Errorf("Of() = %08x; want %08x", got, uint32(ones))
	}
}

func TestOfIsOfTheConcatenation(t *testing.T) {
	l := texts()
	for n := range len(l) + 1 {
		whole := strings.Join(l[:n], "")
		got := sum.Of(l[:n]...)
		if want := sum.Crc(ones, whole); got != want {
			t.Errorf("Of(%q) = %08x; want %08x", l[:n], got, want)
		}
		if want := sum.Of(whole); got != want {
			t.Errorf("Of(%q) = %08x; of the whole %08x", l[:n], got, want)
		}
	}
}

func TestOfHeedsTheOrder(t *testing.T) {
	if sum.Of("a", "b") == sum.Of("b", "a") {
		t.Error("Of(a, b) = Of(b, a)")
	}
}

// A list that is passed with dots is the one that Of sees, not a copy.
func TestOfLeavesItsListAndKeepsNothing(t *testing.T) {
	l := texts()
	before := sum.Of(l...)
	if !slices.Equal(l, texts()) {
		t.Errorf("Of changed its list to %q", l)
	}
	sum.Crc(5, "x")
	if after := sum.Of(l...); after != before {
		t.Errorf("Of = %08x, then %08x", before, after)
	}
	l[0] = "other"
	if sum.Of(texts()...) != before || sum.Of(l...) == before {
		t.Error("Of kept its list")
	}
}

// P2.2

func TestCrcGoesOn(t *testing.T) {
	for _, begin := range begins() {
		for _, a := range texts() {
			for _, b := range texts() {
				got, want := sum.Crc(begin, a+b), sum.Crc(sum.Crc(begin, a), b)
				if got != want {
					t.Errorf("Crc(%08x, %q + %q) = %08x; in two parts %08x", begin, a, b, got, want)
				}
			}
		}
	}
}

func TestCrcGoesOnFromEachPlace(t *testing.T) {
	s := mixed(70)
	for n := range len(s) + 1 {
		if got, want := sum.Crc(sum.Of(s[:n]), s[n:]), sum.Of(s); got != want {
			t.Errorf("in two parts, at %d: %08x; want %08x", n, got, want)
		}
	}
}

// P2.3

// bursts are patterns of up to 32 bits: all short ones at both ends and in the
// middle, polynomials of this and of other checksums, and others.
func bursts() []uint32 {
	l := []uint32{ones, 1<<31 | 1, 0x04c11db7, 0x82608edb, 0xedb88320, 0xdb710641, 0x55555555, 0xaaaaaaaa}
	for i := range uint32(255) {
		l = append(l, i+1, (i+1)<<24, (i+1)<<12)
	}
	x := uint32(1)
	for range 500 {
		x = x*1664525 + 1013904223
		l = append(l, x)
	}
	return l
}

func TestBurstsAreSeen(t *testing.T) {
	for _, s := range []string{strings.Repeat("\x00", 12), strings.Repeat("\xff", 12), mixed(12)} {
		for _, begin := range []uint32{0, ones, 0x12345678} {
			right := sum.Crc(begin, s)
			for at := range 8*len(s) - 31 {
				for _, pattern := range bursts() {
					if sum.Crc(begin, flipped(s, at, pattern)) == right {
						t.Fatalf("Crc(%08x, %q) is the same with %08x flipped at bit %d", begin, s, pattern, at)
					}
				}
			}
		}
	}
}

func TestOfSeesBursts(t *testing.T) {
	s := mixed(48)
	for at := range 8*len(s) - 31 {
		for _, pattern := range bursts() {
			if sum.Of(flipped(s, at, pattern)) == sum.Of(s) {
				t.Fatalf("Of is the same with %08x flipped at bit %d", pattern, at)
			}
		}
	}
}

// Shorter strings have no room for 32 bits: there, all others differ.
func TestShortStringsDiffer(t *testing.T) {
	for _, begin := range []uint32{0, ones, 0x12345678} {
		seen := map[uint32]bool{}
		for v := range 1 << 16 {
			seen[sum.Crc(begin, string([]byte{byte(v >> 8), byte(v)}))] = true
		}
		if len(seen) != 1<<16 {
			t.Errorf("the strings of two bytes have %d checksums, from %08x on", len(seen), begin)
		}
	}
}

// What flipping a bit does to a checksum is the same whatever other bits are
// flipped, as the register is only shifted and xored. So if the changes by 32
// consecutive bits are independent, no pattern of these bits goes unseen.
func TestNoBurstIsUnseen(t *testing.T) {
	s := mixed(48)
	for at := range 8*len(s) - 31 {
		var changes []uint32
		for i := range 32 {
			changes = append(changes, sum.Of(flipped(s, at, 1<<i))^sum.Of(s))
		}
		for _, pattern := range bursts() {
			want := sum.Of(s)
			for i, c := range changes {
				want ^= c * (pattern >> i & 1)
			}
			if sum.Of(flipped(s, at, pattern)) != want {
				t.Fatalf("at bit %d, %08x does not change what its bits do", at, pattern)
			}
		}
		if n := rank(changes); n != 32 {
			t.Fatalf("at bit %d, only %d of 32 changes are independent", at, n)
		}
	}
}

// rank returns how many elements of l are independent of the others, as
// vectors of bits.
func rank(l []uint32) int {
	var base [32]uint32 // by the place of the highest bit
	n := 0
	for _, v := range l {
		for v != 0 {
			high := bits.Len32(v) - 1
			if base[high] == 0 {
				base[high] = v
				n++
				break
			}
			v ^= base[high]
		}
	}
	return n
}
