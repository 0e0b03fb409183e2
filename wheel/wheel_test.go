package wheel_test

import (
	"cmp"
	"math"
	"math/rand/v2"
	"slices"
	"testing"

	"billet/api"
	"billet/wheel"
)

const (
	end      = math.MaxUint64
	greatest = math.MaxInt
	least    = math.MinInt
)

// edges are ticks around which a digit of four bits, or several, change, and
// those at the ends of time.
var edges = []uint64{
	0, 1, 2, 14, 15, 16, 17, 31, 32, 0xef, 0xf0, 0xff, 0x100, 0x101, 0x110, 0xfff, 0x1000, 0x1fff, 0x2000,
	1<<32 - 1, 1 << 32, 1<<40 + 0x123, 1<<60 - 1, 1 << 60, 1<<63 - 1, 1 << 63, 0xf << 60, end - 16, end - 15, end - 1, end,
}

// model is a wheel that looks through all of its elements.
type model struct {
	now   uint64
	ticks map[int]uint64
}

func newModel(now uint64) *model {
	return &model{now: now, ticks: map[int]uint64{}}
}

func (m *model) put(id int, at uint64) api.Errno {
	if id < 0 {
		return api.ErrArg
	}
	if _, ok := m.ticks[id]; ok {
		return api.ErrThere
	}
	m.ticks[id] = at
	return api.OK
}

func (m *model) drop(id int) bool {
	_, ok := m.ticks[id]
	delete(m.ticks, id)
	return ok
}

// due returns the elements that are due at or before to.
func (m *model) due(to uint64) []api.Timer {
	var l []api.Timer
	for id, at := range m.ticks {
		if at <= to {
			l = append(l, api.Timer{ID: id, At: at})
		}
	}
	slices.SortFunc(l, func(a, b api.Timer) int {
		return cmp.Or(cmp.Compare(a.At, b.At), cmp.Compare(a.ID, b.ID))
	})
	return l
}

func (m *model) turn(to uint64) []api.Timer {
	l := m.due(to)
	for _, t := range l {
		delete(m.ticks, t.ID)
	}
	m.now = max(m.now, to)
	return l
}

// expectSame fails the test unless the queries of w answer as m has it.
func expectSame(t *testing.T, w *wheel.Wheel, m *model) {
	t.Helper()
	if w.Now() != m.now || w.Len() != len(m.ticks) {
		t.Fatalf("now %#x with %d elements; want %#x with %d", w.Now(), w.Len(), m.now, len(m.ticks))
	}
	for id, at := range m.ticks {
		if got, ok := w.At(id); got != at || !ok {
			t.Fatalf("At(%d) = %#x, %t; want %#x, true", id, got, ok, at)
		}
	}
	var next uint64
	l := m.due(end)
	if len(l) > 0 {
		next = l[0].At
	}
	if got, ok := w.Next(); got != next || ok != (len(l) > 0) {
		t.Fatalf("Next = %#x, %t; want %#x, %t", got, ok, next, len(l) > 0)
	}
}

// expectTurn fails the test unless Turn(to) returns what m does.
func expectTurn(t *testing.T, w *wheel.Wheel, m *model, to uint64) {
	t.Helper()
	now := w.Now()
	want := m.turn(to)
	if got := w.Turn(to); !slices.Equal(got, want) {
		t.Fatalf("Turn(%#x) at %#x = %v; want %v", to, now, got, want)
	}
	expectSame(t, w, m)
}

// filled returns a wheel with elements that are due at these ticks, numbered
// from 0.
func filled(t *testing.T, now uint64, ticks ...uint64) *wheel.Wheel {
	t.Helper()
	w := wheel.New(now)
	for id, at := range ticks {
		if e := w.Put(id, at); e != api.OK {
			t.Fatalf("Put(%d, %#x) = %d", id, at, e)
		}
	}
	return w
}

// numbers returns the numbers of elements.
func numbers(l []api.Timer) []int {
	var ids []int
	for _, t := range l {
		ids = append(ids, t.ID)
	}
	return ids
}

// P8.1

func TestNew(t *testing.T) {
	for _, now := range edges {
		w := wheel.New(now)
		expectSame(t, w, newModel(now))
		for _, id := range []int{least, -1, 0, 1, greatest} {
			if at, ok := w.At(id); at != 0 || ok {
				t.Errorf("At(%d) = %#x, %t", id, at, ok)
			}
			if w.Drop(id) {
				t.Errorf("Drop(%d) = true", id)
			}
		}
		for _, to := range edges {
			expectTurn(t, wheel.New(now), newModel(now), to)
		}
	}
}

func TestWheelsAreIndependent(t *testing.T) {
	v, w := filled(t, 5, 7, 9), filled(t, 5, 8)
	v.Drop(0)
	v.Turn(9)
	expectSame(t, w, &model{5, map[int]uint64{0: 8}})
}

func TestPut(t *testing.T) {
	w, m := wheel.New(10), newModel(10)
	for _, c := range []struct {
		id   int
		at   uint64
		want api.Errno
	}{
		{3, 20, api.OK},
		{0, 20, api.OK},
		{greatest, end, api.OK},
		{1, 0, api.OK},
		{2, 9, api.OK},
		{4, 10, api.OK},
		{5, 11, api.OK},
		// No number.
		{-1, 20, api.ErrArg},
		{-1, 0, api.ErrArg},
		{-3, 20, api.ErrArg},
		{least, end, api.ErrArg},
		// A number that is there, at this tick or at another.
		{3, 20, api.ErrThere},
		{3, 9, api.ErrThere},
		{0, 10, api.ErrThere},
		{0, 21, api.ErrThere},
		{greatest, 0, api.ErrThere},
		{1, 20, api.ErrThere},
		{4, end, api.ErrThere},
	} {
		if e := w.Put(c.id, c.at); e != c.want || m.put(c.id, c.at) != c.want {
			t.Errorf("Put(%d, %d) = %d; want %d", c.id, c.at, e, c.want)
		}
		expectSame(t, w, m)
	}
	for _, id := range []int{least, -3, -1, 6, greatest - 1} {
		if at, ok := w.At(id); at != 0 || ok {
			t.Errorf("At(%d) = %d, %t", id, at, ok)
		}
	}
	expectTurn(t, w, m, end)
}

// A number that was removed can be added again, at another tick too.
func TestPutAgain(t *testing.T) {
	for _, first := range edges {
		for _, second := range edges {
			w, m := filled(t, 16, first), newModel(16)
			if !w.Drop(0) {
				t.Fatalf("Drop(0) = false")
			}
			expectSame(t, w, m)
			if e := w.Put(0, second); e != api.OK {
				t.Fatalf("Put after Drop = %d", e)
			}
			m.put(0, second)
			expectSame(t, w, m)
			expectTurn(t, w, m, second)
			if e := w.Put(0, first); e != api.OK {
				t.Fatalf("Put after Turn = %d", e)
			}
			m.put(0, first)
			expectSame(t, w, m)
			expectTurn(t, w, m, first)
		}
	}
}

func TestDrop(t *testing.T) {
	w := filled(t, 10, 20, 20, 5, 300)
	m := &model{10, map[int]uint64{0: 20, 1: 20, 2: 5, 3: 300}}
	for _, c := range []struct {
		id   int
		want bool
	}{
		{4, false}, {-1, false}, {least, false}, {greatest, false},
		{1, true}, {1, false}, {2, true}, {2, false}, {3, true}, {0, true}, {0, false}, {3, false},
	} {
		if got := w.Drop(c.id); got != c.want || m.drop(c.id) != c.want {
			t.Errorf("Drop(%d) = %t; want %t", c.id, got, c.want)
		}
		if at, ok := w.At(c.id); at != 0 || ok {
			t.Errorf("At(%d) = %d, %t after Drop", c.id, at, ok)
		}
		expectSame(t, w, m)
	}
	expectTurn(t, w, m, end)
}

// An element can be removed wherever the turns until then have left it, and
// does not come back.
func TestDropAfterTurns(t *testing.T) {
	for _, at := range edges {
		for _, first := range edges {
			for _, second := range edges {
				w, m := filled(t, 0, at, at), newModel(0)
				m.put(0, at)
				m.put(1, at)
				expectTurn(t, w, m, first)
				if got, want := w.Drop(1), m.drop(1); got != want {
					t.Fatalf("Drop = %t; want %t", got, want)
				}
				expectSame(t, w, m)
				expectTurn(t, w, m, second)
				if got, want := w.Drop(0), m.drop(0); got != want {
					t.Fatalf("Drop = %t; want %t", got, want)
				}
				expectTurn(t, w, m, end)
			}
		}
	}
}

func TestNext(t *testing.T) {
	w, m := wheel.New(0x123), newModel(0x123)
	ids := len(edges)
	// From late to early, so that each one is the next one at first.
	for i := range ids {
		at := edges[ids-1-i]
		if w.Put(i, at) != m.put(i, at) {
			t.Fatalf("Put(%d, %#x)", i, at)
		}
		expectSame(t, w, m)
	}
	for i := range ids {
		if id := ids - 1 - i; !w.Drop(id) || !m.drop(id) {
			t.Fatalf("Drop(%d) = false", id)
		}
		expectSame(t, w, m)
	}
}

// Each pair of ticks, seen from each tick, also from those after them.
func TestNextOfTwo(t *testing.T) {
	for _, now := range edges {
		for _, a := range edges {
			for _, b := range edges {
				w := filled(t, now, a, b)
				if at, ok := w.Next(); at != min(a, b) || !ok {
					t.Fatalf("Next at %#x of %#x and %#x = %#x, %t", now, a, b, at, ok)
				}
			}
		}
	}
}

// The end of time and tick 0 are ticks as all others, though Next returns 0 as
// well if there is nothing.
func TestNextAtTheEndsOfTime(t *testing.T) {
	for _, now := range edges {
		for _, at := range []uint64{0, end} {
			w := filled(t, now, at)
			if next, ok := w.Next(); next != at || !ok {
				t.Errorf("Next at %#x = %#x, %t; want %#x, true", now, next, ok, at)
			}
			if got, ok := w.At(0); got != at || !ok {
				t.Errorf("At at %#x = %#x, %t; want %#x, true", now, got, ok, at)
			}
		}
	}
}

// P8.2

func TestTurn(t *testing.T) {
	w := wheel.New(0)
	for _, e := range []api.Errno{w.Put(3, 20), w.Put(1, 20), w.Put(2, 5)} {
		if e != api.OK {
			t.Fatal(e)
		}
	}
	want := []api.Timer{{ID: 2, At: 5}, {ID: 1, At: 20}, {ID: 3, At: 20}}
	if got := w.Turn(20); !slices.Equal(got, want) {
		t.Errorf("Turn(20) = %v; want %v", got, want)
	}
	expectSame(t, w, newModel(20))
	if got := w.Turn(end); len(got) != 0 {
		t.Errorf("Turn returns %v once more", got)
	}
}

// For equal ticks, numbers count as numbers, and not by when they were added.
func TestTurnOrdersByNumbers(t *testing.T) {
	ids := []int{10, 9, greatest, 0, 100, 2, 1 << 40, 1, 11, 1<<32 + 1, 99, 5}
	sorted := slices.Sorted(slices.Values(ids))
	for _, now := range edges {
		for _, at := range edges {
			w := wheel.New(now)
			for _, id := range ids {
				w.Put(id, at)
			}
			got := w.Turn(end)
			if !slices.Equal(numbers(got), sorted) {
				t.Fatalf("Turn of %#x at %#x returns %v", at, now, got)
			}
		}
	}
}

// Ticks come before numbers, and are ordered as numbers of 64 bits.
func TestTurnOrdersByTicks(t *testing.T) {
	for _, now := range edges {
		w, m := wheel.New(now), newModel(now)
		for i, at := range edges {
			for _, id := range []int{1000 - i, 2000 + i} {
				w.Put(id, at)
				m.put(id, at)
			}
		}
		expectTurn(t, w, m, end)
	}
}

func TestTurnTakesWhatIsDueByThen(t *testing.T) {
	for _, now := range edges {
		for _, at := range edges {
			for _, to := range edges {
				w, m := filled(t, now, at), newModel(now)
				m.put(0, at)
				expectTurn(t, w, m, to)
				expectTurn(t, w, m, at)
				expectTurn(t, w, m, end)
			}
		}
	}
}

// An element that is not due yet is due right when its tick comes, not one
// tick before it.
func TestTurnIsExact(t *testing.T) {
	for _, now := range edges {
		for _, at := range edges {
			if at == 0 {
				continue
			}
			w, m := filled(t, now, at, at-1), newModel(now)
			m.put(0, at)
			m.put(1, at-1)
			expectTurn(t, w, m, at-1)
			if w.Len() != 1 {
				t.Fatalf("%d elements are left at %#x", w.Len(), at-1)
			}
			expectTurn(t, w, m, at)
		}
	}
}

// A turn to a tick before now still takes only what is due by then.
func TestTurnBack(t *testing.T) {
	w := filled(t, 100, 50, 70, 100, 101, 0)
	m := &model{100, map[int]uint64{0: 50, 1: 70, 2: 100, 3: 101, 4: 0}}
	for _, c := range []struct {
		to   uint64
		want []int
	}{
		{0, []int{4}},
		{49, nil},
		{50, []int{0}},
		{50, nil},
		{99, []int{1}},
		{99, nil},
		{100, []int{2}},
		{0, nil},
		{101, []int{3}},
	} {
		if got := numbers(m.due(c.to)); !slices.Equal(got, c.want) {
			t.Fatalf("the model has %v due at %d; want %v", got, c.to, c.want)
		}
		expectTurn(t, w, m, c.to)
	}
}

// What Turn returns belongs to the caller.
func TestTurnReturnsCopies(t *testing.T) {
	w := filled(t, 0, 5, 6, 7, 300)
	first := w.Turn(5)
	second := w.Turn(6)
	first[0] = api.Timer{Kind: 9, ID: 9, At: 9}
	_ = append(first, api.Timer{Kind: 8, ID: 8, At: 8})
	if want := []api.Timer{{ID: 1, At: 6}}; !slices.Equal(second, want) {
		t.Errorf("the second turn has become %v; want %v", second, want)
	}
	expectSame(t, w, &model{6, map[int]uint64{2: 7, 3: 300}})
}

func TestNil(t *testing.T) {
	var w *wheel.Wheel
	for _, id := range []int{least, -1, 0, 1, greatest} {
		for _, at := range edges {
			if e := w.Put(id, at); e != api.ErrState {
				t.Errorf("Put(%d, %#x) = %d", id, at, e)
			}
		}
		if w.Drop(id) {
			t.Errorf("Drop(%d) = true", id)
		}
		if at, ok := w.At(id); at != 0 || ok {
			t.Errorf("At(%d) = %#x, %t", id, at, ok)
		}
	}
	for _, to := range edges {
		if l := w.Turn(to); len(l) != 0 {
			t.Errorf("Turn(%#x) = %v", to, l)
		}
	}
	if at, ok := w.Next(); at != 0 || ok {
		t.Errorf("Next = %#x, %t", at, ok)
	}
	if w.Now() != 0 || w.Len() != 0 {
		t.Errorf("Now = %#x, Len = %d", w.Now(), w.Len())
	}
}

// P8.3

// once returns what a single turn returns.
func once(t *testing.T, now, to uint64, ticks []uint64) []api.Timer {
	t.Helper()
	w, m := filled(t, now, ticks...), newModel(now)
	for id, at := range ticks {
		m.put(id, at)
	}
	l := w.Turn(to)
	if !slices.Equal(l, m.turn(to)) {
		t.Fatalf("Turn(%#x) at %#x = %v", to, now, l)
	}
	return l
}

func TestTurnInTwo(t *testing.T) {
	for _, now := range edges {
		for _, to := range edges {
			whole := once(t, now, to, edges)
			for _, between := range edges {
				if between > to {
					continue
				}
				w := filled(t, now, edges...)
				l := append(w.Turn(between), w.Turn(to)...)
				if !slices.Equal(l, whole) || w.Now() != max(now, to) || w.Len() != len(edges)-len(whole) {
					t.Fatalf("Turn to %#x and %#x at %#x = %v; want %v", between, to, now, l, whole)
				}
			}
		}
	}
}

// scattered returns ticks around a first one, some before it, several of them
// equal.
func scattered(first uint64) []uint64 {
	var l []uint64
	for i := range uint64(200) {
		l = append(l, first-50+i*i*7%700)
	}
	return l
}

func TestTurnTickByTick(t *testing.T) {
	for _, now := range []uint64{50, 250, 0xff0, 0xffff0, 1<<32 - 100, 1<<60 - 300, 1<<63 - 10, end - 700} {
		ticks := scattered(now)
		whole := once(t, now, now+700, ticks)
		if len(whole) != len(ticks) {
			t.Fatalf("%d of %d ticks", len(whole), len(ticks))
		}
		for _, step := range []uint64{1, 2, 3, 7, 15, 16, 17, 255, 256} {
			w := filled(t, now, ticks...)
			var l []api.Timer
			for at := now; at < now+700; at += min(step, now+700-at) {
				l = append(l, w.Turn(at)...)
			}
			l = append(l, w.Turn(now+700)...)
			if !slices.Equal(l, whole) {
				t.Fatalf("%d ticks a turn from %#x on: %v; want %v", step, now, l, whole)
			}
		}
	}
}

// From one Next to the next one, nothing is left out, however far they are
// apart.
func TestTurnFromNextToNext(t *testing.T) {
	for _, now := range edges {
		whole := once(t, now, end, edges)
		w := filled(t, now, edges...)
		var l []api.Timer
		for next, ok := w.Next(); ok; next, ok = w.Next() {
			part := w.Turn(next)
			if len(part) == 0 {
				t.Fatalf("Turn(%#x) at %#x returns nothing", next, w.Now())
			}
			l = append(l, part...)
		}
		if !slices.Equal(l, whole) {
			t.Fatalf("from Next to Next at %#x: %v; want %v", now, l, whole)
		}
	}
}

// All promises, for any calls.

// near returns a tick that is, with any of its digits, near another one, or
// elsewhere.
func near(r *rand.Rand, at uint64) uint64 {
	switch r.IntN(6) {
	case 0:
		return at
	case 1:
		return at + uint64(r.IntN(20))
	case 2:
		return at - uint64(r.IntN(20))
	case 3:
		return edges[r.IntN(len(edges))]
	case 4:
		return r.Uint64() >> r.IntN(64)
	}
	return at ^ uint64(r.IntN(16))<<(4*r.IntN(16))
}

func TestAnyCalls(t *testing.T) {
	for seed := range uint64(600) {
		r := rand.New(rand.NewPCG(8, seed))
		now := near(r, 1<<r.IntN(64))
		w, m := wheel.New(now), newModel(now)
		for range 200 {
			id := r.IntN(40) - 2
			switch r.IntN(8) {
			case 0:
				if got, want := w.Drop(id), m.drop(id); got != want {
					t.Fatalf("seed %d: Drop(%d) = %t; want %t", seed, id, got, want)
				}
				expectSame(t, w, m)
			case 1:
				expectTurn(t, w, m, near(r, m.now))
			case 2:
				if l := m.due(end); len(l) > 0 {
					expectTurn(t, w, m, l[r.IntN(len(l))].At)
				}
			default:
				at := near(r, m.now)
				if got, want := w.Put(id, at), m.put(id, at); got != want {
					t.Fatalf("seed %d: Put(%d, %#x) = %d; want %d", seed, id, at, got, want)
				}
				expectSame(t, w, m)
			}
		}
		expectTurn(t, w, m, end)
	}
}

// The same calls have the same results, though elements are kept in maps.
func TestSameCallsSameResults(t *testing.T) {
	run := func() []api.Timer {
		w := wheel.New(300)
		var l []api.Timer
		for id := range 2000 {
			w.Put(id, uint64(id*id%1009))
			if id%50 == 0 {
				l = append(l, w.Turn(uint64(id/4))...)
			}
		}
		return append(l, w.Turn(end)...)
	}
	first := run()
	for range 5 {
		if !slices.Equal(run(), first) {
			t.Fatal("the same calls return different elements")
		}
	}
}

// Time goes on by ticks without looking through all that is due later.
func TestManyElements(t *testing.T) {
	const n = 100_000
	w := wheel.New(0)
	for id := range n {
		if e := w.Put(id, 1<<40+uint64(id)); e != api.OK {
			t.Fatal(e)
		}
	}
	for to := range uint64(n) {
		if l := w.Turn(to); len(l) != 0 {
			t.Fatalf("Turn(%d) = %v", to, l)
		}
	}
	for id := range n {
		to := 1<<40 + uint64(id)
		if l := w.Turn(to); !slices.Equal(l, []api.Timer{{ID: id, At: to}}) {
			t.Fatalf("Turn(%#x) = %v", to, l)
		}
	}
	if w.Len() != 0 {
		t.Errorf("%d elements are left", w.Len())
	}
}
