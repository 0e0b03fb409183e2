package quant_test

import (
	"math"
	"math/rand/v2"
	"slices"
	"testing"

	"billet/api"
	"billet/hist"
	"billet/quant"
)

const (
	end      = math.MaxUint64
	greatest = math.MaxInt
	least    = math.MinInt
	last     = 15 // bucket
)

// single returns a histogram of one count.
func single(b, n int) api.Hist {
	var h api.Hist
	h[b] = n
	return h
}

// counted returns a histogram of run times.
func counted(times ...uint64) api.Hist {
	var h api.Hist
	for _, v := range times {
		h = hist.Add(h, v)
	}
	return h
}

// filled returns a histogram with a sum of counts, laid out at random in the
// buckets from low up to below high.
func filled(r *rand.Rand, sum, low, high int) api.Hist {
	var h api.Hist
	for range sum {
		h[low+r.IntN(high-low)]++
	}
	return h
}

// some are valid histograms that contain counts: all of one bucket, most of two
// buckets, some laid out by hand, and some at random.
func some() []api.Hist {
	l := []api.Hist{
		{1, 2, 3, 4, 5, 6, 7, 8, 9, 10},
		{4, 4, 4, 4, 4, 4, 4, 4, 4, 4, 4, 4, 4, 4, 4, 4},
		{1, 1, 1, 1, 1, 1, 1, 1, 1, 1, 1, 1, 1, 1, 1, 1},
		{1, 1, 1, 1, 1, 1, 1, 1, 1, 1, 1, 1, 1, 1, 1, 49},
		{49, 1, 1, 1, 1, 1, 1, 1, 1, 1, 1, 1, 1, 1, 1, 1},
		{0: 1, last: 63},
		{0: 63, last: 1},
	}
	for b := range api.Buckets {
		for n := 1; n <= 64; n++ {
			l = append(l, single(b, n))
		}
	}
	for n := 1; n <= 64; n++ {
		for m := 1; n+m <= 64; m++ {
			l = append(l, api.Hist{2: n, 5: m}, api.Hist{0: n, last: m})
		}
	}
	r := rand.New(rand.NewPCG(11, 1))
	for range 2000 {
		low := r.IntN(api.Buckets)
		high := low + 1 + r.IntN(api.Buckets-low)
		l = append(l, filled(r, 1+r.IntN(64), low, high))
	}
	return l
}

// invalid are histograms that are not valid. The sums of some of them would be,
// and in some of them the counts of the lowest buckets are enough.
func invalid() []api.Hist {
	l := []api.Hist{
		{0: 64, last: 1},
		{0: 1, last: 64},
		{0: 33, last: 32},
		{0: -1, 1: 2},
		{0: -1, 1: 65},
		{3: 10, 4: -1},
		{3: 10, last: -9},
		{3: 1000, 4: -990},
		{5, 5, 5, 5, 5, 5, 5, 5, 5, 5, 5, 5, 5, 5, 5, 5},
		{greatest, greatest, 3},
		{greatest, 1, greatest, 2},
		{least, least, 1},
		{least, greatest, 2},
		{1 << 62, 1 << 62, 1 << 62, 1 << 62, 1},
	}
	for b := range api.Buckets {
		for _, n := range []int{least, -64, -1, 65, 66, 128, 1 << 32, greatest} {
			l = append(l, single(b, n))
		}
	}
	return l
}

// wrong are percents that are not from 1 to 100.
func wrong() []int {
	l := []int{
		least, least + 1, -1 << 32, -101, -100, -99, -2, -1, 0, 101, 102, 150, 200,
		255, 256, 257, 306, 1 << 32, 1<<32 + 50, 1 << 62, greatest - 1, greatest,
	}
	// With these a product of a count and a percent would wrap round to a small
	// number.
	for shift := 57; shift < 63; shift++ {
		l = append(l, 1<<shift+50, -1<<shift+50)
	}
	return l
}

// model finds the place among the counts laid out one by one in the order of
// their buckets: that of the first one up to which there are enough of them.
func model(h api.Hist, percent int) int {
	var l []int
	for b, n := range h {
		l = append(l, slices.Repeat([]int{b}, n)...)
	}
	for i, b := range l {
		if 100*(i+1) >= len(l)*percent {
			return b
		}
	}
	return -1
}

// check holds both answers for a histogram and a percent against a bucket.
func check(t *testing.T, h api.Hist, percent, want int) {
	t.Helper()
	if b, ok := quant.Place(h, percent); b != want || !ok {
		t.Fatalf("Place(%v, %d) = %d, %v; want %d", h, percent, b, ok, want)
	}
	if v, ok := quant.Of(h, percent); v != hist.High(want) || !ok {
		t.Fatalf("Of(%v, %d) = %d, %v; want %d", h, percent, v, ok, hist.High(want))
	}
}

// checkNone checks that there is no answer for a histogram and a percent.
func checkNone(t *testing.T, h api.Hist, percent int) {
	t.Helper()
	if b, ok := quant.Place(h, percent); b != 0 || ok {
		t.Fatalf("Place(%v, %d) = %d, %v; want 0, false", h, percent, b, ok)
	}
	if v, ok := quant.Of(h, percent); v != 0 || ok {
		t.Fatalf("Of(%v, %d) = %d, %v; want 0, false", h, percent, v, ok)
	}
}

// P11.1

func TestExample(t *testing.T) {
	h := counted(1, 1, 1, 9)
	for percent, want := range map[int]uint64{1: 1, 74: 1, 75: 1, 76: 15, 77: 15, 100: 15} {
		if v, ok := quant.Of(h, percent); v != want || !ok {
			t.Errorf("Of(%v, %d) = %d, %v; want %d", h, percent, v, ok, want)
		}
	}
}

func TestPlace(t *testing.T) {
	for _, c := range []struct {
		h             api.Hist
		percent, want int
	}{
		{api.Hist{0: 1}, 1, 0},
		{api.Hist{0: 1}, 100, 0},
		{api.Hist{last: 1}, 1, last},
		{api.Hist{last: 64}, 100, last},
		// Empty buckets below the first count are not enough for any percent.
		{api.Hist{3: 1}, 1, 3},
		{api.Hist{7: 64}, 1, 7},
		// Nor are empty buckets above what is enough chosen.
		{api.Hist{3: 1, 9: 1}, 50, 3},
		{api.Hist{3: 1, 9: 1}, 51, 9},
		// Of three, one is above 33 hundredths of all, and below 34.
		{api.Hist{1: 1, 2: 1, 3: 1}, 33, 1},
		{api.Hist{1: 1, 2: 1, 3: 1}, 34, 2},
		{api.Hist{1: 1, 2: 1, 3: 1}, 66, 2},
		{api.Hist{1: 1, 2: 1, 3: 1}, 67, 3},
		// Of 64, one is above 1 hundredth, and 63 are above 98, below 99.
		{api.Hist{4: 1, 5: 63}, 1, 4},
		{api.Hist{4: 1, 5: 63}, 2, 5},
		{api.Hist{4: 63, 5: 1}, 98, 4},
		{api.Hist{4: 63, 5: 1}, 99, 5},
		{api.Hist{4: 63, 5: 1}, 100, 5},
		// The sum of several buckets is just enough.
		{api.Hist{4, 4, 4, 4, 4, 4, 4, 4, 4, 4, 4, 4, 4, 4, 4, 4}, 25, 3},
		{api.Hist{4, 4, 4, 4, 4, 4, 4, 4, 4, 4, 4, 4, 4, 4, 4, 4}, 26, 4},
		{api.Hist{4, 4, 4, 4, 4, 4, 4, 4, 4, 4, 4, 4, 4, 4, 4, 4}, 50, 7},
		{api.Hist{4, 4, 4, 4, 4, 4, 4, 4, 4, 4, 4, 4, 4, 4, 4, 4}, 94, last},
		// What is enough is at the last bucket only.
		{api.Hist{0: 1, last: 63}, 2, last},
		{api.Hist{0: 63, last: 1}, 100, last},
	} {
		check(t, c.h, c.percent, c.want)
	}
}

func TestOf(t *testing.T) {
	for _, c := range []struct {
		times   []uint64
		percent int
		want    uint64
	}{
		{[]uint64{0}, 1, 0},
		{[]uint64{0, 0, 0}, 100, 0},
		{[]uint64{0, 1}, 50, 0},
		{[]uint64{0, 1}, 51, 1},
		{[]uint64{5, 6, 7, 8}, 75, 7},
		{[]uint64{8, 7, 6, 5}, 76, 15},
		{[]uint64{1<<14 - 1, 1 << 14}, 50, 1<<14 - 1},
		{[]uint64{1<<14 - 1, 1 << 14}, 51, end},
		{[]uint64{end}, 90, end},
	} {
		h := counted(c.times...)
		if v, ok := quant.Of(h, c.percent); v != c.want || !ok {
			t.Errorf("Of(%v, %d) of %v = %d, %v; want %d", h, c.percent, c.times, v, ok, c.want)
		}
	}
}

func TestNoCounts(t *testing.T) {
	for percent := -1; percent <= 101; percent++ {
		checkNone(t, api.Hist{}, percent)
	}
	for _, percent := range wrong() {
		checkNone(t, api.Hist{}, percent)
	}
}

func TestInvalidHistogram(t *testing.T) {
	for _, h := range invalid() {
		for percent := range 102 {
			checkNone(t, h, percent)
		}
		for _, percent := range wrong() {
			checkNone(t, h, percent)
		}
	}
}

func TestPercentOutOfRange(t *testing.T) {
	for _, h := range some() {
		for _, percent := range wrong() {
			checkNone(t, h, percent)
		}
	}
}

func TestPlaceIsThatOfTheModel(t *testing.T) {
	for _, h := range some() {
		for percent := 1; percent <= 100; percent++ {
			check(t, h, percent, model(h, percent))
		}
	}
}

// TestOfIsEnough holds Of against the run times themselves: enough of them are
// at most what it answers, and too few are in the buckets below.
func TestOfIsEnough(t *testing.T) {
	r := rand.New(rand.NewPCG(11, 2))
	for range 500 {
		times := make([]uint64, 1+r.IntN(64))
		for i := range times {
			times[i] = r.Uint64() >> r.IntN(65)
		}
		h := counted(times...)
		for percent := 1; percent <= 100; percent++ {
			v, _ := quant.Of(h, percent)
			upTo, below := 0, 0
			for _, x := range times {
				if x <= v {
					upTo++
				}
				if hist.Bucket(x) < hist.Bucket(v) {
					below++
				}
			}
			need := len(times) * percent
			if 100*upTo < need || 100*below >= need {
				t.Fatalf("Of(%v, %d) = %d, with %d up to it and %d below", h, percent, v, upTo, below)
			}
		}
	}
}

func TestSameAnswerAgain(t *testing.T) {
	for _, h := range append(some(), invalid()...) {
		before := h
		for percent := range 102 {
			b, placed := quant.Place(h, percent)
			v, found := quant.Of(h, percent)
			b2, placed2 := quant.Place(h, percent)
			v2, found2 := quant.Of(h, percent)
			if b2 != b || placed2 != placed || v2 != v || found2 != found {
				t.Fatalf("with %v and %d: %d, %v, %d, %v; then %d, %v, %d, %v",
					h, percent, b, placed, v, found, b2, placed2, v2, found2)
			}
		}
		if h != before {
			t.Fatalf("%v was changed to %v", before, h)
		}
	}
}

// P11.2

func TestNeverDecreases(t *testing.T) {
	for _, h := range some() {
		place, longest := 0, uint64(0)
		for percent := 1; percent <= 100; percent++ {
			b, placed := quant.Place(h, percent)
			v, found := quant.Of(h, percent)
			if !placed || !found || b < place || v < longest {
				t.Fatalf("with %v and %d: %d, %v, %d, %v, after %d and %d",
					h, percent, b, placed, v, found, place, longest)
			}
			place, longest = b, v
		}
	}
}

func TestSingleRunTime(t *testing.T) {
	times := []uint64{0, end}
	for bits := range 64 {
		p := uint64(1) << bits
		times = append(times, p-1, p, p+1)
	}
	for _, v := range times {
		for percent := 1; percent <= 100; percent++ {
			check(t, counted(v), percent, hist.Bucket(v))
		}
	}
}
