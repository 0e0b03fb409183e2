package hist_test

import (
	"math"
	"math/rand/v2"
	"testing"

	"billet/api"
	"billet/hist"
)

const (
	end      = math.MaxUint64
	greatest = math.MaxInt
	least    = math.MinInt
	last     = 15 // bucket
)

// edges returns the numbers at the ends of every number of bits.
func edges() []uint64 {
	l := []uint64{0, end}
	for bits := range 64 {
		p := uint64(1) << bits
		l = append(l, p-1, p, p+1)
	}
	return l
}

// bits counts the bits of a number one by one.
func bits(v uint64) int {
	n := 0
	for ; v > 0; v /= 2 {
		n++
	}
	return n
}

// bucket is the Bucket of a number, by its bits.
func bucket(v uint64) int {
	if b := bits(v); b < last {
		return b
	}
	return last
}

// random returns a number of any number of bits.
func random(r *rand.Rand) uint64 {
	return r.Uint64() >> r.IntN(65)
}

// single returns a histogram of one count.
func single(b, n int) api.Hist {
	var h api.Hist
	h[b] = n
	return h
}

// filled returns a histogram with a sum of counts, laid out at random.
func filled(r *rand.Rand, sum int) api.Hist {
	var h api.Hist
	for range sum {
		h[r.IntN(api.Buckets)]++
	}
	return h
}

// valid are histograms at the ends of what is valid, and some in between.
func valid() []api.Hist {
	l := []api.Hist{
		{},
		{0: 1},
		{last: 1},
		{0: 32, last: 31},
		{0: 32, last: 32},
		{0: 1, 3: 63},
		{1, 2, 3, 4, 5, 6, 7, 8, 9, 10},
		{4, 4, 4, 4, 4, 4, 4, 4, 4, 4, 4, 4, 4, 4, 4, 4},
		{4, 4, 4, 4, 4, 4, 4, 3, 4, 4, 4, 4, 4, 4, 4, 4},
		{1, 1, 1, 1, 1, 1, 1, 1, 1, 1, 1, 1, 1, 1, 1, 49},
	}
	for b := range api.Buckets {
		l = append(l, single(b, 63), single(b, 64))
	}
	return l
}

// invalid are histograms with a count or a sum that is not valid. The sums of
// some of them are, at least if they are taken as 64 bits.
func invalid() []api.Hist {
	l := []api.Hist{
		{0: 64, last: 1},
		{0: 1, last: 64},
		{0: 33, last: 32},
		{0: 64, 1: 64},
		{0: -1, 1: 1},
		{0: -1, 1: 65},
		{3: 65, 4: -1},
		{3: 10, 4: -10},
		{3: 1000, 4: -990},
		{4, 4, 4, 4, 4, 4, 4, 5, 4, 4, 4, 4, 4, 4, 4, 4},
		{5, 5, 5, 5, 5, 5, 5, 5, 5, 5, 5, 5, 5, 5, 5, 5},
		{64, 64, 64, 64, 64, 64, 64, 64, 64, 64, 64, 64, 64, 64, 64, 64},
		{greatest, greatest, 2},
		{greatest, 1, greatest, 1},
		{least, least},
		{least, greatest, 1},
		{1 << 62, 1 << 62, 1 << 62, 1 << 62},
	}
	for b := range api.Buckets {
		for _, n := range []int{least, -64, -1, 65, 66, 128, 1 << 32, greatest} {
			l = append(l, single(b, n))
		}
	}
	return l
}

// P10.1

func TestBucket(t *testing.T) {
	for _, c := range []struct {
		v    uint64
		want int
	}{
		{0, 0}, {1, 1}, {2, 2}, {3, 2}, {4, 3}, {7, 3}, {8, 4}, {255, 8}, {256, 9},
		{1<<13 - 1, 13}, {1 << 13, 14}, {1<<14 - 1, 14}, {1 << 14, 15}, {1<<15 - 1, 15},
		{1 << 15, 15}, {1 << 16, 15}, {1 << 32, 15}, {1 << 63, 15}, {end, 15},
	} {
		if got := hist.Bucket(c.v); got != c.want {
			t.Errorf("Bucket(%d) = %d; want %d", c.v, got, c.want)
		}
	}
}

func TestBucketCountsBits(t *testing.T) {
	numbers := edges()
	for v := range uint64(1 << 16) {
		numbers = append(numbers, v)
	}
	r := rand.New(rand.NewPCG(10, 1))
	for range 10000 {
		numbers = append(numbers, random(r))
	}
	for _, v := range numbers {
		if got := hist.Bucket(v); got != bucket(v) {
			t.Fatalf("Bucket(%d) = %d; want %d", v, got, bucket(v))
		}
	}
}

func TestHigh(t *testing.T) {
	want := [api.Buckets]uint64{
		0, 1, 3, 7, 15, 31, 63, 127, 255, 511, 1023, 2047, 4095, 8191, 16383, end,
	}
	for b, v := range want {
		if got := hist.High(b); got != v {
			t.Errorf("High(%d) = %d; want %d", b, got, v)
		}
	}
	for _, b := range []int{least, -1 << 32, -64, -16, -2, -1, 16, 17, 63, 64, 65, 1 << 32, greatest} {
		if got := hist.High(b); got != 0 {
			t.Errorf("High(%d) = %d; want 0", b, got)
		}
	}
}

// TestHighIsTheGreatest holds High against Bucket: its number is in the bucket,
// and the next one is not.
func TestHighIsTheGreatest(t *testing.T) {
	for b := range api.Buckets {
		v := hist.High(b)
		if got := hist.Bucket(v); got != b {
			t.Errorf("Bucket(High(%d)) = %d", b, got)
		}
		if v == end {
			continue
		}
		if got := hist.Bucket(v + 1); got != b+1 {
			t.Errorf("Bucket(High(%d) + 1) = %d; want %d", b, got, b+1)
		}
	}
}

func TestTotal(t *testing.T) {
	for _, c := range []struct {
		h    api.Hist
		want int
	}{
		{api.Hist{}, 0},
		{api.Hist{0: 1}, 1},
		{api.Hist{last: 1}, 1},
		{api.Hist{0: 2, 7: 5, last: 3}, 10},
		{api.Hist{1, 2, 3, 4, 5, 6, 7, 8, 9, 10, 11, 12, 13, 14, 15, 16}, 136},
		// The sum is that of a histogram that is not valid, too.
		{api.Hist{0: 64, last: 64}, 128},
		{api.Hist{0: -3, 1: 2}, -1},
		{api.Hist{3: 1000, 4: -990}, 10},
		{api.Hist{0: greatest}, greatest},
		{api.Hist{last: least}, least},
		{api.Hist{0: least, last: greatest}, -1},
	} {
		if got := hist.Total(c.h); got != c.want {
			t.Errorf("Total(%v) = %d; want %d", c.h, got, c.want)
		}
	}
}

func TestTotalOfEachBucket(t *testing.T) {
	r := rand.New(rand.NewPCG(10, 2))
	for range 1000 {
		sum := r.IntN(200)
		if h := filled(r, sum); hist.Total(h) != sum {
			t.Fatalf("Total(%v) = %d; want %d", h, hist.Total(h), sum)
		}
	}
}

func TestFull(t *testing.T) {
	if hist.Full != 64 {
		t.Errorf("Full is %d; want 64", hist.Full)
	}
}

func TestRight(t *testing.T) {
	for _, h := range valid() {
		if !hist.Right(h) {
			t.Errorf("Right(%v) = false", h)
		}
	}
	for _, h := range invalid() {
		if hist.Right(h) {
			t.Errorf("Right(%v) = true", h)
		}
	}
}

func TestRightOfSums(t *testing.T) {
	r := rand.New(rand.NewPCG(10, 3))
	for range 1000 {
		sum := r.IntN(129)
		if h := filled(r, sum); hist.Right(h) != (sum <= 64) {
			t.Fatalf("Right(%v) = %t, with a sum of %d", h, hist.Right(h), sum)
		}
	}
}

// P10.2

func TestAdd(t *testing.T) {
	for _, c := range []struct {
		h    api.Hist
		v    uint64
		want api.Hist
	}{
		{api.Hist{}, 0, api.Hist{0: 1}},
		{api.Hist{}, 1, api.Hist{1: 1}},
		{api.Hist{}, 5, api.Hist{3: 1}},
		{api.Hist{}, end, api.Hist{last: 1}},
		{api.Hist{2: 4, 3: 1}, 3, api.Hist{2: 5, 3: 1}},
		// The last one that is counted without any of the others being forgotten.
		{api.Hist{3: 63}, 5, api.Hist{3: 64}},
		{api.Hist{3: 63}, 1 << 20, api.Hist{3: 63, last: 1}},
		{api.Hist{0: 31, last: 32}, 0, api.Hist{0: 32, last: 32}},
		// A full histogram is halved first, so the new one counts whole.
		{api.Hist{3: 64}, 5, api.Hist{3: 33}},
		{api.Hist{3: 64}, 1, api.Hist{1: 1, 3: 32}},
		{api.Hist{0: 1, 3: 63}, 0, api.Hist{0: 1, 3: 31}},
		{api.Hist{0: 1, 3: 63}, 9, api.Hist{3: 31, 4: 1}},
		{api.Hist{0: 33, last: 31}, end, api.Hist{0: 16, last: 16}},
		{
			api.Hist{4, 4, 4, 4, 4, 4, 4, 4, 4, 4, 4, 4, 4, 4, 4, 4}, 64,
			api.Hist{2, 2, 2, 2, 2, 2, 2, 3, 2, 2, 2, 2, 2, 2, 2, 2},
		},
		{
			api.Hist{1, 1, 1, 1, 1, 1, 1, 1, 1, 1, 1, 1, 1, 1, 1, 49}, 0,
			api.Hist{0: 1, last: 24},
		},
		// Odd counts are rounded down, each of them.
		{
			api.Hist{3, 5, 7, 1, 9, 1, 3, 5, 1, 1, 3, 5, 7, 1, 1, 11}, 100,
			api.Hist{1, 2, 3, 0, 4, 0, 1, 3, 0, 0, 1, 2, 3, 0, 0, 5},
		},
	} {
		if got := hist.Add(c.h, c.v); got != c.want {
			t.Errorf("Add(%v, %d) = %v; want %v", c.h, c.v, got, c.want)
		}
	}
}

func TestAddToInvalid(t *testing.T) {
	for _, h := range invalid() {
		for _, v := range edges() {
			if got := hist.Add(h, v); got != (api.Hist{}) {
				t.Fatalf("Add(%v, %d) = %v; want the zero histogram", h, v, got)
			}
		}
	}
}

// model adds a number to a valid histogram, written as the document has it.
func model(h api.Hist, v uint64) api.Hist {
	sum := 0
	for b := range api.Buckets {
		sum += h[b]
	}
	if sum == 64 {
		for b := range api.Buckets {
			h[b] = (h[b] - h[b]%2) / 2
		}
	}
	h[bucket(v)]++
	return h
}

func TestAddIsThatOfTheModel(t *testing.T) {
	for _, h := range valid() {
		for _, v := range edges() {
			if got := hist.Add(h, v); got != model(h, v) {
				t.Fatalf("Add(%v, %d) = %v; want %v", h, v, got, model(h, v))
			}
		}
	}
	r := rand.New(rand.NewPCG(10, 4))
	for range 10000 {
		h, v := filled(r, r.IntN(65)), random(r)
		if r.IntN(2) == 0 {
			h = filled(r, 64)
		}
		if got := hist.Add(h, v); got != model(h, v) {
			t.Fatalf("Add(%v, %d) = %v; want %v", h, v, got, model(h, v))
		}
	}
}

func TestAddLeavesItsArgument(t *testing.T) {
	for _, h := range append(valid(), invalid()...) {
		before := h
		first := hist.Add(h, 9)
		if h != before {
			t.Fatalf("Add changed %v to %v", before, h)
		}
		if again := hist.Add(h, 9); again != first {
			t.Fatalf("Add(%v, 9) = %v; then %v", h, first, again)
		}
	}
}

// P10.3

func TestAddStaysValid(t *testing.T) {
	check := func(h api.Hist, v uint64) api.Hist {
		got := hist.Add(h, v)
		if !hist.Right(got) || hist.Total(got) < 1 {
			t.Fatalf("Add(%v, %d) = %v, which is not valid or has nothing", h, v, got)
		}
		return got
	}
	for _, h := range valid() {
		for _, v := range edges() {
			check(h, v)
		}
	}
	r := rand.New(rand.NewPCG(10, 5))
	for range 50 {
		h := filled(r, r.IntN(65))
		for range 500 {
			h = check(h, random(r))
		}
	}
}

// TestOrderDoesNotMatter adds the same numbers in several orders, up to the one
// with which a histogram is full.
func TestOrderDoesNotMatter(t *testing.T) {
	r := rand.New(rand.NewPCG(10, 6))
	for range 300 {
		start := filled(r, r.IntN(65))
		numbers := make([]uint64, hist.Full-hist.Total(start))
		want := start
		for i := range numbers {
			numbers[i] = random(r)
			want[bucket(numbers[i])]++
		}
		for range 3 {
			got := start
			for _, v := range numbers {
				got = hist.Add(got, v)
			}
			if got != want {
				t.Fatalf("%v with %v added is %v; want %v", start, numbers, got, want)
			}
			r.Shuffle(len(numbers), func(i, j int) { numbers[i], numbers[j] = numbers[j], numbers[i] })
		}
	}
}
