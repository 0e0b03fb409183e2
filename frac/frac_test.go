package frac_test

import (
	"math"
	"math/big"
	"testing"

	"billet/frac"
)

const most = math.MaxUint64

// edges are numbers at which words and half words begin and end, and some in
// between.
var edges = []uint64{
	0, 1, 2, 3, 10, 1<<20 - 1, 1 << 20, 1<<31 + 7, 1<<32 - 1, 1 << 32, 1<<32 + 1,
	0x123456789abcdef, 1<<62 - 1, 1 << 62, 1<<63 - 1, 1 << 63, 1<<63 + 1, most - 2, most - 1, most,
}

func whole(v uint64) *big.Int {
	return new(big.Int).SetUint64(v)
}

func product(a, b uint64) *big.Int {
	return new(big.Int).Mul(whole(a), whole(b))
}

// fraction returns a/b, for a b above 0.
func fraction(a, b uint64) *big.Rat {
	return new(big.Rat).SetFrac(whole(a), whole(b))
}

// P5.1

func TestCompare(t *testing.T) {
	for _, c := range []struct {
		a, b, c, d uint64
		want       int
	}{
		{1, 3, 2, 6, 0},
		{1, 2, 1, 3, 1},
		{1, 3, 1, 2, -1},
		{2, 1, 1, 1, 1},
		{0, 1, 0, 5, 0},
		{0, 1, 1, 5, -1},
		{1, 5, 0, 1, 1},
		// With a 0 below, only the products count.
		{0, 0, 0, 0, 0},
		{1, 0, 1, 0, 0},
		{1, 0, 5, 0, 0},
		{1, 0, 5, 1, 1},
		{5, 1, 1, 0, -1},
		{0, 0, 5, 1, 0},
		// Products of two words.
		{1 << 63, 1 << 62, 1 << 62, 1 << 61, 0},
		{most, most, most, most, 0},
		{most, most - 1, most, most, 1},
		{most - 1, most, most, most, -1},
		{most, 1, 1, most, 1},
		{1, most, most, 1, -1},
		// Only the lower words differ: a d is 2^64 + 2^32, b c is 2^64 + 2^33.
		{1<<32 + 1, 1<<32 + 2, 1 << 32, 1 << 32, -1},
		{1<<32 + 2, 1<<32 + 1, 1 << 32, 1 << 32, 1},
		// The higher words decide, though the lower ones say otherwise.
		{1 << 32, 1, 3, 1 << 32, 1},
		{3, 1 << 32, 1 << 32, 1, -1},
		{1 << 63, 1 << 63, 1 << 63, 1<<63 - 1, -1},
		// The lower words alone are the same.
		{1 << 32, 0, 0, 1 << 32, 1},
		{0, 1 << 32, 1 << 32, 0, -1},
		{1 << 33, 1 << 32, 1 << 32, 1 << 32, 1},
	} {
		if got := frac.Compare(c.a, c.b, c.c, c.d); got != c.want {
			t.Errorf("Compare(%d, %d, %d, %d) = %d; want %d", c.a, c.b, c.c, c.d, got, c.want)
		}
	}
}

func TestCompareOfEdges(t *testing.T) {
	for _, a := range edges {
		for _, b := range edges {
			for _, c := range edges {
				for _, d := range edges {
					want := product(a, d).Cmp(product(b, c))
					if got := frac.Compare(a, b, c, d); got != want {
						t.Fatalf("Compare(%d, %d, %d, %d) = %d; want %d", a, b, c, d, got, want)
					}
				}
			}
		}
	}
}

func TestCompareComparesFractions(t *testing.T) {
	for _, a := range edges {
		for _, b := range edges[1:] {
			for _, c := range edges {
				for _, d := range []uint64{1, 2, 1<<32 + 1, most} {
					want := fraction(a, b).Cmp(fraction(c, d))
					if got := frac.Compare(a, b, c, d); got != want {
						t.Fatalf("Compare(%d, %d, %d, %d) = %d; want %d", a, b, c, d, got, want)
					}
				}
			}
		}
	}
}

func TestCeil(t *testing.T) {
	for _, c := range []struct{ a, b, want uint64 }{
		{7, 2, 4},
		{6, 2, 3},
		{6, 3, 2},
		{7, 3, 3},
		{8, 3, 3},
		{9, 3, 3},
		{0, 1, 0},
		{0, 7, 0},
		{1, 7, 1},
		{7, 7, 1},
		{8, 7, 2},
		{0, 0, 0},
		{1, 0, 0},
		{most, 0, 0},
		// No sum of a and b may overflow.
		{most, 1, most},
		{most, 2, 1 << 63},
		{most, 3, most / 3},
		{most, most, 1},
		{most, most - 1, 2},
		{most - 1, most, 1},
		{1, most, 1},
		{0, most, 0},
		{1<<63 + 1, 1 << 63, 2},
	} {
		if got := frac.Ceil(c.a, c.b); got != c.want {
			t.Errorf("Ceil(%d, %d) = %d; want %d", c.a, c.b, got, c.want)
		}
	}
}

func TestCeilIsTheLeast(t *testing.T) {
	for _, a := range edges {
		for _, b := range edges[1:] {
			got := frac.Ceil(a, b)
			if product(got, b).Cmp(whole(a)) < 0 {
				t.Errorf("Ceil(%d, %d) = %d, which is below", a, b, got)
			}
			if got > 0 && product(got-1, b).Cmp(whole(a)) >= 0 {
				t.Errorf("Ceil(%d, %d) = %d, which is not the least", a, b, got)
			}
		}
	}
}

func TestScale(t *testing.T) {
	for _, c := range []struct{ a, b, c, want uint64 }{
		{5, 5, 1, 25},
		{5, 5, 2, 12},
		{5, 5, 24, 1},
		{5, 5, 25, 1},
		{5, 5, 26, 0},
		{0, 5, 5, 0},
		{5, 0, 5, 0},
		{5, 5, 0, 0},
		{0, 0, 0, 0},
		{most, most, 0, 0},
		// The product has two words, the quotient has one.
		{1 << 63, 4, 8, 1 << 62},
		{1 << 63, 1 << 63, 1 << 63, 1 << 63},
		{most, most, most, most},
		{most, 7, 8, 16140901064495857663},
		{1 << 32, 1 << 32, 2, 1 << 63},
		// The greatest quotient of one word, and the first one above it.
		{most, 1, 1, most},
		{most, 2, 2, most},
		{1 << 32, 1 << 32, 1, most},
		{1 << 63, 2, 1, most},
		{1 << 63, 4, 2, most},
		{1 << 63, 4, 1, most},
		{most, most, most - 1, most},
		{most, most - 1, most, most - 1},
		{most, most, 1, most},
	} {
		if got := frac.Scale(c.a, c.b, c.c); got != c.want {
			t.Errorf("Scale(%d, %d, %d) = %d; want %d", c.a, c.b, c.c, got, c.want)
		}
	}
}

func TestScaleOfEdges(t *testing.T) {
	greatest := whole(most)
	for _, a := range edges {
		for _, b := range edges {
			for _, c := range edges[1:] {
				want := new(big.Int).Quo(product(a, b), whole(c))
				if want.Cmp(greatest) > 0 {
					want = greatest
				}
				if got := frac.Scale(a, b, c); want.Cmp(whole(got)) != 0 {
					t.Fatalf("Scale(%d, %d, %d) = %d; want %s", a, b, c, got, want)
				}
			}
		}
	}
}

// P5.2

func TestNear(t *testing.T) {
	for _, c := range []struct {
		x, v, y, w, q, c uint64
		want             bool
	}{
		{5, 1, 12, 2, 0, 0, false},
		{5, 1, 12, 2, 1, 0, true},
		{10, 2, 9, 3, 2, 0, true},
		{10, 2, 8, 3, 2, 0, false},
		{10, 2, 8, 3, 2, 1, true},
		// The same fractions are near with nothing allowed.
		{0, 1, 0, 1, 0, 0, true},
		{1, 3, 2, 6, 0, 0, true},
		{0, 7, 0, 9, 0, 0, true},
		// Either side may be the greater one.
		{3, 1, 0, 1, 3, 0, true},
		{0, 1, 3, 1, 3, 0, true},
		{4, 1, 0, 1, 3, 0, false},
		{0, 1, 4, 1, 3, 0, false},
		// c is divided by each of the two: 6/2 + 6/3 is 5.
		{10, 2, 0, 3, 0, 6, true},
		{11, 2, 0, 3, 0, 6, false},
		{0, 2, 15, 3, 0, 6, true},
		{0, 2, 16, 3, 0, 6, false},
		// q is not divided.
		{20, 4, 0, 9, 5, 0, true},
		{21, 4, 0, 9, 5, 0, false},
		// Nothing is rounded: 1/3 + 1/7 is 10/21.
		{10, 21, 0, 1, 0, 0, false},
		{2, 3, 8, 7, 0, 1, true},
		{1, 3, 6, 7, 0, 1, false},
		// Nothing is near by a 0 below.
		{0, 0, 0, 1, 1, 1, false},
		{0, 1, 0, 0, 1, 1, false},
		{0, 0, 0, 0, 0, 0, false},
		{1, 0, 1, 0, 9, 9, false},
		{most, 0, most, 0, most, most, false},
	} {
		if got := frac.Near(c.x, c.v, c.y, c.w, c.q, c.c); got != c.want {
			t.Errorf("Near(%d, %d, %d, %d, %d, %d) = %t", c.x, c.v, c.y, c.w, c.q, c.c, got)
		}
	}
}

// The greatest numbers that are allowed are near; one that is greater, at any
// place, makes them not near.
func TestNearOfNumbersBelowTheLimit(t *testing.T) {
	const greatest = 1<<20 - 1
	numbers := [6]uint64{greatest, greatest, greatest, greatest, greatest, greatest}
	if !near(numbers) {
		t.Errorf("Near%d = false", numbers)
	}
	for i := range numbers {
		for _, v := range []uint64{1 << 20, 1<<20 + 1, 1 << 21, 1 << 32, 1 << 44, 1 << 63, most} {
			over := numbers
			over[i] = v
			if near(over) {
				t.Errorf("Near%d = true", over)
			}
			// Also where all the others are small and would be near.
			over = [6]uint64{1, 1, 1, 1, 1, 1}
			if !near(over) {
				t.Errorf("Near%d = false", over)
			}
			over[i] = v
			if near(over) {
				t.Errorf("Near%d = true", over)
			}
		}
	}
}

func near(l [6]uint64) bool {
	return frac.Near(l[0], l[1], l[2], l[3], l[4], l[5])
}

// isNear is what Near should return for v and w above 0 and all numbers below
// 2^20.
func isNear(x, v, y, w, q, c uint64) bool {
	apart := new(big.Rat).Sub(fraction(x, v), fraction(y, w))
	allowed := fraction(q, 1)
	allowed.Add(allowed, fraction(c, v))
	allowed.Add(allowed, fraction(c, w))
	return apart.Abs(apart).Cmp(allowed) <= 0
}

func TestNearOfSmallNumbers(t *testing.T) {
	seen := map[bool]int{}
	for x := range uint64(10) {
		for y := range uint64(10) {
			for v := uint64(1); v < 6; v++ {
				for w := uint64(1); w < 6; w++ {
					for q := range uint64(3) {
						for c := range uint64(4) {
							want := isNear(x, v, y, w, q, c)
							if frac.Near(x, v, y, w, q, c) != want {
								t.Fatalf("Near(%d, %d, %d, %d, %d, %d) = %t", x, v, y, w, q, c, !want)
							}
							seen[want]++
						}
					}
				}
			}
		}
	}
	if seen[true] == 0 || seen[false] == 0 {
		t.Errorf("tried %v", seen)
	}
}

func TestNearOfGreatNumbers(t *testing.T) {
	numbers := []uint64{0, 1, 3, 16, 1000, 1<<19 + 1, 1<<20 - 2, 1<<20 - 1}
	for _, x := range numbers {
		for _, v := range numbers[1:] {
			for _, y := range numbers {
				for _, w := range numbers[1:] {
					for _, q := range numbers {
						for _, c := range numbers {
							want := isNear(x, v, y, w, q, c)
							if frac.Near(x, v, y, w, q, c) != want {
								t.Fatalf("Near(%d, %d, %d, %d, %d, %d) = %t", x, v, y, w, q, c, !want)
							}
						}
					}
				}
			}
		}
	}
}

// The answer is the same whichever side is called the first one.
func TestNearIsSymmetric(t *testing.T) {
	for x := range uint64(30) {
		for y := range uint64(30) {
			for v := range uint64(7) {
				for w := range uint64(7) {
					if frac.Near(x, v, y, w, 1, 2) != frac.Near(y, w, x, v, 1, 2) {
						t.Fatalf("Near(%d, %d, %d, %d, 1, 2) depends on the order", x, v, y, w)
					}
				}
			}
		}
	}
}
