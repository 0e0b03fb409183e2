package tick_test

import (
	"math"
	"math/big"
	"testing"

	"billet/tick"
)

const (
	end      = math.MaxUint64
	greatest = math.MaxInt
	least    = math.MinInt
)

// points are ticks at the ends of time and of the kinds of integers, and some
// in between.
var points = []uint64{
	0, 1, 2, 3, 7, 1000, 1<<20 - 1, 1 << 20, 1<<32 - 1, 1 << 32, 1<<62 + 5,
	1<<63 - 2, 1<<63 - 1, 1 << 63, 1<<63 + 1, end - 1000, end - 3, end - 2, end - 1, end,
}

// spans are ints at the ends of their kind, and some in between.
var spans = []int{
	least, least + 1, -1 << 32, -2, -1, 0, 1, 2, 3, 4, 5, 6, 7, 8, 9, 1000, 1<<20 - 1, 1 << 20,
	1<<31 - 1, 1 << 31, 1<<32 + 1, 1<<61 + 1, 1<<62 - 1, 1 << 62, 1<<62 + 1, greatest - 1, greatest,
}

// P6.1

func TestAdd(t *testing.T) {
	for _, c := range []struct {
		now  uint64
		n    int
		want uint64
	}{
		{5, 3, 8},
		{0, 0, 0},
		{0, 1, 1},
		{5, 0, 5},
		{5, -1, 5},
		{5, -5, 5},
		{5, -6, 5},
		{0, -1, 0},
		{5, least, 5},
		{end, -1, end},
		{end, least, end},
		{1 << 63, least, 1 << 63},
		// At most the end of time.
		{end - 1, 5, end},
		{end - 5, 4, end - 1},
		{end - 5, 5, end},
		{end - 5, 6, end},
		{end, 0, end},
		{end, 1, end},
		{end, greatest, end},
		{end - greatest, greatest - 1, end - 1},
		{end - greatest, greatest, end},
		{end - greatest + 1, greatest, end},
		// The greatest int is not the end of time.
		{0, greatest, greatest},
		{greatest, 1, 1 << 63},
		{greatest, greatest, end - 1},
		{1 << 63, greatest, end},
	} {
		if got := tick.Add(c.now, c.n); got != c.want {
			t.Errorf("Add(%d, %d) = %d; want %d", c.now, c.n, got, c.want)
		}
	}
}

func TestAddOfEdges(t *testing.T) {
	last := new(big.Int).SetUint64(end)
	for _, now := range points {
		for _, n := range spans {
			want := new(big.Int).SetUint64(now)
			if n > 0 {
				want.Add(want, big.NewInt(int64(n)))
			}
			if want.Cmp(last) > 0 {
				want = last
			}
			if got := tick.Add(now, n); got != want.Uint64() {
				t.Errorf("Add(%d, %d) = %d; want %s", now, n, got, want)
			}
		}
	}
}

func TestLeft(t *testing.T) {
	for _, c := range []struct{ now, at, want uint64 }{
		{3, 5, 2},
		{5, 3, 0},
		{5, 5, 0},
		{4, 5, 1},
		{6, 5, 0},
		{0, 0, 0},
		{0, 1, 1},
		{1, 0, 0},
		// All of the 64 bits count.
		{0, end, end},
		{1, end, end - 1},
		{end - 1, end, 1},
		{end, end, 0},
		{end, end - 1, 0},
		{end, 0, 0},
		{0, 1 << 63, 1 << 63},
		{1 << 63, 0, 0},
		{1<<63 - 1, 1 << 63, 1},
		{1 << 63, 1<<63 - 1, 0},
	} {
		if got := tick.Left(c.now, c.at); got != c.want {
			t.Errorf("Left(%d, %d) = %d; want %d", c.now, c.at, got, c.want)
		}
	}
}

// What is left until a tick leads there when it is added.
func TestLeftIsTheInverseOfAdd(t *testing.T) {
	for _, now := range points {
		for _, n := range spans {
			at := tick.Add(now, n)
			want := uint64(max(n, 0))
			if at == end {
				want = end - now
			}
			if got := tick.Left(now, at); got != want {
				t.Errorf("Left(%d, %d) = %d; want %d", now, at, got, want)
			}
			if got := tick.Left(at, now); got != 0 {
				t.Errorf("Left(%d, %d) = %d; want 0", at, now, got)
			}
		}
	}
}

// P6.2

func TestWait(t *testing.T) {
	for _, c := range []struct{ base, most, n, want int }{
		{3, 20, 1, 3},
		{3, 20, 2, 6},
		{3, 20, 3, 12},
		{3, 20, 4, 20},
		{3, 20, 5, 20},
		{3, 20, 1000, 20},
		// Just at most, below it and above it.
		{3, 24, 4, 24},
		{3, 24, 5, 24},
		{3, 25, 4, 24},
		{3, 25, 5, 25},
		{3, 23, 4, 23},
		// A base that is not below most.
		{9, 4, 1, 4},
		{9, 4, 2, 4},
		{9, 9, 1, 9},
		{9, 9, 7, 9},
		{9, 8, 1, 8},
		{9, 10, 1, 9},
		{9, 10, 2, 10},
		{1, 1, 1, 1},
		{1, 1, greatest, 1},
		{1, 2, 1, 1},
		{1, 2, 2, 2},
		{1, 2, 3, 2},
		{1, 3, 2, 2},
		{1, 3, 3, 3},
		{greatest, 1, 1, 1},
		// None.
		{3, 20, 0, 0},
		{3, 20, -1, 0},
		{3, 20, least, 0},
		{0, 20, 1, 0},
		{0, 20, 5, 0},
		{-3, 20, 1, 0},
		{least, 20, 2, 0},
		{3, 0, 1, 0},
		{3, -1, 1, 0},
		{3, least, 2, 0},
		{-3, -20, 1, 0},
		{0, 0, 0, 0},
		{least, least, least, 0},
		{greatest, greatest, least, 0},
		// No double overflows, and no n takes long.
		{1, greatest, 62, 1 << 61},
		{1, greatest, 63, 1 << 62},
		{1, greatest, 64, greatest},
		{1, greatest, 65, greatest},
		{1, greatest, greatest, greatest},
		{1, 1<<62 + 1, 63, 1 << 62},
		{1, 1<<62 + 1, 64, 1<<62 + 1},
		{1, 1 << 62, 62, 1 << 61},
		{1, 1 << 62, 63, 1 << 62},
		{1, 1 << 62, 64, 1 << 62},
		{1 << 62, greatest, 1, 1 << 62},
		{1 << 62, greatest, 2, greatest},
		{1<<62 - 1, greatest, 2, greatest - 1},
		{1<<62 - 1, greatest, 3, greatest},
		{greatest, greatest, 1, greatest},
		{greatest, greatest, greatest, greatest},
		{greatest - 1, greatest, 1, greatest - 1},
		{greatest - 1, greatest, 2, greatest},
	} {
		if got := tick.Wait(c.base, c.most, c.n); got != c.want {
			t.Errorf("Wait(%d, %d, %d) = %d; want %d", c.base, c.most, c.n, got, c.want)
		}
	}
}

// delay is what Wait should return.
func delay(base, most, n int) int {
	if base < 1 || most < 1 || n < 1 {
		return 0
	}
	doubled := big.NewInt(int64(base))
	doubled.Lsh(doubled, uint(min(n, 70)-1))
	if limit := big.NewInt(int64(most)); doubled.Cmp(limit) > 0 {
		return most
	}
	return int(doubled.Int64())
}

// retries are numbers of retries, all that matter and some more.
func retries() []int {
	list := []int{least, least + 1, -64, greatest - 1, greatest}
	for n := range 70 {
		list = append(list, n-2)
	}
	return list
}

func TestWaitOfEdges(t *testing.T) {
	for _, base := range spans {
		for _, most := range spans {
			for _, n := range retries() {
				want := delay(base, most, n)
				if got := tick.Wait(base, most, n); got != want {
					t.Fatalf("Wait(%d, %d, %d) = %d; want %d", base, most, n, got, want)
				}
			}
		}
	}
}

func TestWaitOfSmallNumbers(t *testing.T) {
	for base := range 40 {
		for most := range 100 {
			for n := range 10 {
				want := delay(base, most, n)
				if got := tick.Wait(base, most, n); got != want {
					t.Fatalf("Wait(%d, %d, %d) = %d; want %d", base, most, n, got, want)
				}
			}
		}
	}
}

func TestRounds(t *testing.T) {
	for _, c := range []struct{ base, most, want int }{
		{3, 20, 4},
		{3, 24, 4},
		{3, 25, 5},
		{3, 12, 3},
		{3, 13, 4},
		{9, 4, 1},
		{9, 9, 1},
		{9, 10, 2},
		{9, 18, 2},
		{9, 19, 3},
		{1, 1, 1},
		{1, 2, 2},
		{1, 3, 3},
		{1, 4, 3},
		{1, 5, 4},
		{1, 1 << 20, 21},
		{1, 1<<20 + 1, 22},
		// The longest ways.
		{1, 1<<62 - 1, 63},
		{1, 1 << 62, 63},
		{1, 1<<62 + 1, 64},
		{1, greatest, 64},
		{2, greatest, 63},
		{1 << 62, greatest, 2},
		{1<<62 - 1, greatest - 1, 2},
		{1<<62 - 1, greatest, 3},
		{greatest - 1, greatest, 2},
		{greatest, greatest, 1},
		{greatest, 1, 1},
		// None.
		{0, 20, 0},
		{-1, 20, 0},
		{least, 20, 0},
		{3, 0, 0},
		{3, -1, 0},
		{3, least, 0},
		{0, 0, 0},
		{-1, -1, 0},
		{least, least, 0},
		{least, greatest, 0},
		{greatest, least, 0},
	} {
		if got := tick.Rounds(c.base, c.most); got != c.want {
			t.Errorf("Rounds(%d, %d) = %d; want %d", c.base, c.most, got, c.want)
		}
	}
}

// isRounds reports whether n is the least number of a retry before which the
// delay is most.
func isRounds(base, most, n int) bool {
	if base < 1 || most < 1 {
		return n == 0
	}
	return n >= 1 && delay(base, most, n) == most && delay(base, most, n-1) < most
}

func TestRoundsOfEdges(t *testing.T) {
	for _, base := range spans {
		for _, most := range spans {
			if n := tick.Rounds(base, most); !isRounds(base, most, n) {
				t.Errorf("Rounds(%d, %d) = %d", base, most, n)
			}
		}
	}
}

func TestRoundsOfSmallNumbers(t *testing.T) {
	for base := range 40 {
		for most := range 200 {
			if n := tick.Rounds(base, most); !isRounds(base, most, n) {
				t.Fatalf("Rounds(%d, %d) = %d", base, most, n)
			}
		}
	}
}

// P6.3

func TestWaitGrowsByAtMostTwice(t *testing.T) {
	for _, base := range spans {
		for _, most := range spans {
			for n := -2; n < 70; n++ {
				before, after := tick.Wait(base, most, n), tick.Wait(base, most, n+1)
				if after < before {
					t.Fatalf("Wait(%d, %d, n) decreases from %d to %d at %d", base, most, before, after, n)
				}
				// Before the first retry there is no delay that could double.
				if n >= 1 && after-before > before {
					t.Fatalf("Wait(%d, %d, n) grows from %d to %d at %d", base, most, before, after, n)
				}
			}
			if last := tick.Wait(base, most, greatest); last != tick.Wait(base, most, 70) {
				t.Fatalf("Wait(%d, %d, %d) = %d, unlike at 70", base, most, greatest, last)
			}
		}
	}
}
