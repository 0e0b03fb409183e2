package due_test

import (
	"cmp"
	"math"
	"math/rand/v2"
	"slices"
	"testing"

	"billet/api"
	"billet/due"
)

const (
	end      = math.MaxUint64
	greatest = math.MaxInt
	least    = math.MinInt
	numbers  = api.MaxInt + 1 // of each kind
)

// edges are ticks at the ends of time and of digits, and some in between.
var edges = []uint64{
	0, 1, 2, 9, 15, 16, 17, 0xff, 0x100, 0xfff, 0x1000, 1<<32 - 1, 1 << 32, 1<<40 + 0x123,
	1<<63 - 1, 1 << 63, end - 16, end - 15, end - 1, end,
}

// kinds are those that there are.
var kinds = []int{api.TimerDeadline, api.TimerWorker, api.TimerPreempt, api.TimerWake}

// ids are numbers that a timer can have.
var ids = []int{0, 1, 2, 9, 10, 1<<31 - 1, 1 << 32, api.MaxInt - 1, api.MaxInt}

// name is what a timer is identified by.
type name struct{ kind, id int }

// valid are names at the ends of what a timer can have.
func valid() []name {
	var l []name
	for _, kind := range kinds {
		for _, id := range ids {
			l = append(l, name{kind, id})
		}
	}
	return l
}

// invalid are names that no timer can have. Some would be those of others, if
// kinds and numbers were taken together carelessly.
func invalid() []name {
	var l []name
	for _, kind := range []int{least, -1, 0, 5, 6, 1 << 23, 1<<32 + 1, greatest} {
		for _, id := range append(ids, -1, numbers, 3*numbers, greatest) {
			l = append(l, name{kind, id})
		}
	}
	for _, kind := range kinds {
		for _, id := range []int{least, -numbers, 1 - numbers, -2, -1, numbers, numbers + 1, 2*numbers + 9, 1 << 50, greatest} {
			l = append(l, name{kind, id})
		}
	}
	return l
}

// model is a set of timers that looks through all of them.
type model struct {
	now    uint64
	timers map[name]uint64
}

func newModel(now uint64) *model {
	return &model{now: now, timers: map[name]uint64{}}
}

func compare(a, b api.Timer) int {
	return cmp.Or(cmp.Compare(a.At, b.At), cmp.Compare(a.Kind, b.Kind), cmp.Compare(a.ID, b.ID))
}

// list returns the timers in order.
func (m *model) list() []api.Timer {
	var l []api.Timer
	for n, at := range m.timers {
		l = append(l, api.Timer{Kind: n.kind, ID: n.id, At: at})
	}
	slices.SortFunc(l, compare)
	return l
}

func (m *model) set(kind, id int, at uint64) api.Errno {
	if kind < 1 || kind > 4 || id < 0 || id > 1<<40 {
		return api.ErrArg
	}
	m.timers[name{kind, id}] = at
	return api.OK
}

func (m *model) clear(kind, id int) bool {
	_, ok := m.timers[name{kind, id}]
	delete(m.timers, name{kind, id})
	return ok
}

func (m *model) first(to uint64) (api.Timer, bool) {
	l := m.list()
	if len(l) == 0 || l[0].At > to {
		return api.Timer{}, false
	}
	delete(m.timers, name{l[0].Kind, l[0].ID})
	m.now = max(m.now, l[0].At)
	return l[0], true
}

func (m *model) pass(to uint64) bool {
	for _, at := range m.timers {
		if at <= to {
			return false
		}
	}
	m.now = max(m.now, to)
	return true
}

// pair is a set of timers and the model that it is held against.
type pair struct {
	t *testing.T
	d *due.Due
	m *model
}

func newPair(t *testing.T, now uint64) pair {
	t.Helper()
	p := pair{t, due.New(now), newModel(now)}
	p.same()
	return p
}

// same fails the test unless all queries answer as the model does.
func (p pair) same() {
	p.t.Helper()
	d, m := p.d, p.m
	if d.Now() != m.now || d.Len() != len(m.timers) {
		p.t.Fatalf("now %#x with %d timers; want %#x with %d", d.Now(), d.Len(), m.now, len(m.timers))
	}
	l := m.list()
	for _, x := range l {
		if at, ok := d.At(x.Kind, x.ID); at != x.At || !ok {
			p.t.Fatalf("At(%d, %d) = %#x, %t; want %#x, true", x.Kind, x.ID, at, ok, x.At)
		}
	}
	var want uint64
	if len(l) > 0 {
		want = l[0].At
	}
	if next, ok := d.Next(); next != want || ok != (len(l) > 0) {
		p.t.Fatalf("Next = %#x, %t; want %#x, %t", next, ok, want, len(l) > 0)
	}
}

func (p pair) set(kind, id int, at uint64) {
	p.t.Helper()
	if e, want := p.d.Set(kind, id, at), p.m.set(kind, id, at); e != want {
		p.t.Fatalf("Set(%d, %d, %#x) at %#x = %d; want %d", kind, id, at, p.m.now, e, want)
	}
	p.same()
}

func (p pair) clear(kind, id int) {
	p.t.Helper()
	if got, want := p.d.Clear(kind, id), p.m.clear(kind, id); got != want {
		p.t.Fatalf("Clear(%d, %d) = %t; want %t", kind, id, got, want)
	}
	if at, ok := p.d.At(kind, id); at != 0 || ok {
		p.t.Fatalf("At(%d, %d) = %#x, %t after Clear", kind, id, at, ok)
	}
	p.same()
}

// first calls First and reports what it does.
func (p pair) first(to uint64) bool {
	p.t.Helper()
	now := p.m.now
	want, some := p.m.first(to)
	if got, ok := p.d.First(to); got != want || ok != some {
		p.t.Fatalf("First(%#x) at %#x = %v, %t; want %v, %t", to, now, got, ok, want, some)
	}
	p.same()
	return some
}

func (p pair) pass(to uint64) {
	p.t.Helper()
	now := p.m.now
	want := p.m.pass(to)
	if got := p.d.Go(to); got != want {
		p.t.Fatalf("Go(%#x) at %#x = %t; want %t", to, now, got, want)
	}
	p.same()
}

// empty takes all timers.
func (p pair) empty() {
	p.t.Helper()
	for p.first(end) {
	}
	if p.d.Len() != 0 {
		p.t.Fatalf("%d timers are left", p.d.Len())
	}
}

// P9.1

func TestNew(t *testing.T) {
	for _, now := range edges {
		p := newPair(t, now)
		for _, n := range append(valid(), invalid()...) {
			p.clear(n.kind, n.id)
		}
		for _, to := range edges {
			p.first(to)
			newPair(t, now).pass(to)
		}
	}
}

func TestSetsAreIndependent(t *testing.T) {
	p, q := newPair(t, 5), newPair(t, 5)
	p.set(1, 2, 3)
	p.set(1, 3, 8)
	q.set(1, 2, 7)
	p.empty()
	q.same()
	q.empty()
}

func TestKinds(t *testing.T) {
	if api.TimerDeadline != 1 || api.TimerWorker != 2 || api.TimerPreempt != 3 || api.TimerWake != 4 || api.MaxInt != 1<<40 {
		t.Fatal("the kinds are from 1 to 4, the numbers from 0 to 2^40")
	}
	if d := due.New(0); d.Set(1, 0, 5) != api.OK || d.Set(4, 1<<40, 5) != api.OK {
		t.Error("a timer at the ends of kinds and numbers can't be set")
	}
}

// Each timer is one of its own, whichever others there are.
func TestSet(t *testing.T) {
	for _, now := range []uint64{0, 20, end} {
		p := newPair(t, now)
		for i, n := range valid() {
			p.set(n.kind, n.id, uint64(i))
		}
		if p.d.Len() != len(kinds)*len(ids) {
			t.Errorf("%d timers", p.d.Len())
		}
		p.empty()
	}
}

func TestSetRefusesInvalidNames(t *testing.T) {
	p := newPair(t, 20)
	for i, n := range valid() {
		p.set(n.kind, n.id, uint64(i))
	}
	for _, n := range invalid() {
		for _, at := range []uint64{0, 20, 21, end} {
			if e := p.d.Set(n.kind, n.id, at); e != api.ErrArg {
				t.Errorf("Set(%d, %d, %#x) = %d", n.kind, n.id, at, e)
			}
		}
		p.same()
	}
	p.empty()
}

// Names that no timer has are asked for in vain, beside all that there can be.
func TestInvalidNamesAreNone(t *testing.T) {
	p := newPair(t, 20)
	for i, n := range valid() {
		p.set(n.kind, n.id, uint64(i))
	}
	for _, n := range invalid() {
		p.clear(n.kind, n.id)
	}
	p.empty()
}

// A timer that is set again is due at its new tick only, wherever both are.
func TestSetReplaces(t *testing.T) {
	for _, now := range edges {
		for _, first := range edges {
			for _, second := range edges {
				p := newPair(t, now)
				p.set(3, 7, 16)
				p.set(3, 8, first)
				p.set(3, 8, second)
				p.set(3, 9, 16)
				if p.d.Len() != 3 {
					t.Fatalf("%d timers", p.d.Len())
				}
				p.empty()
			}
		}
	}
}

// Those that are due already are replaced as well, when others of them were
// taken.
func TestSetReplacesWhatIsDue(t *testing.T) {
	for _, at := range edges {
		p := newPair(t, 8)
		for id := range 5 {
			p.set(2, id, 9)
		}
		p.first(9)
		p.set(2, 3, at)
		p.set(2, 2, at)
		p.set(2, 4, 9)
		p.empty()
	}
}

func TestClear(t *testing.T) {
	for _, now := range edges {
		for _, at := range edges {
			p := newPair(t, now)
			p.set(1, 5, at)
			p.set(2, 5, at)
			p.set(1, 6, at)
			p.clear(1, 5)
			p.clear(1, 5)
			p.clear(2, 6)
			p.clear(2, 5)
			p.set(1, 5, at)
			p.clear(1, 6)
			p.empty()
			p.clear(1, 5)
		}
	}
}

func TestAt(t *testing.T) {
	p := newPair(t, 10)
	p.set(1, 5, 0)
	p.set(4, 5, end)
	for _, c := range []struct {
		kind, id int
		at       uint64
		ok       bool
	}{
		{1, 5, 0, true}, {4, 5, end, true}, {2, 5, 0, false}, {1, 4, 0, false}, {1, 6, 0, false}, {0, 5, 0, false},
		{5, 5, 0, false}, {2, 5 - numbers, 0, false}, {3, 5 + numbers, 0, false}, {0, 5 + numbers, 0, false}, {-1, -1, 0, false},
	} {
		if at, ok := p.d.At(c.kind, c.id); at != c.at || ok != c.ok {
			t.Errorf("At(%d, %d) = %d, %t; want %d, %t", c.kind, c.id, at, ok, c.at, c.ok)
		}
	}
}

// Next is the earliest tick of all kinds, also before now, and asking for it
// changes nothing.
func TestNext(t *testing.T) {
	p := newPair(t, 0x123)
	for i := range edges {
		p.set(kinds[i%4], i, edges[len(edges)-1-i])
	}
	for i := range edges {
		p.clear(kinds[(len(edges)-1-i)%4], len(edges)-1-i)
	}
}

// P9.2

func TestFirst(t *testing.T) {
	p := newPair(t, 0)
	for _, x := range []api.Timer{{Kind: 4, ID: 7, At: 9}, {Kind: 1, ID: 8, At: 9}} {
		p.set(x.Kind, x.ID, x.At)
	}
	for _, want := range []api.Timer{{Kind: 1, ID: 8, At: 9}, {Kind: 4, ID: 7, At: 9}} {
		if got, ok := p.d.First(9); got != want || !ok {
			t.Errorf("First(9) = %v, %t; want %v, true", got, ok, want)
		}
	}
	if got, ok := p.d.First(end); ok || got != (api.Timer{}) || p.d.Now() != 9 {
		t.Errorf("First = %v, %t at %d", got, ok, p.d.Now())
	}
}

// Ticks come before kinds, kinds before numbers, and numbers count as numbers,
// not by when they were set.
func TestFirstTakesInOrder(t *testing.T) {
	ticks := []uint64{0, 9, 16, 1 << 40, 1 << 63, end}
	var want []api.Timer
	for i, at := range ticks {
		for kind := 1; kind <= 4; kind++ {
			for _, id := range []int{0, 10, 20, 90, 100, 110, api.MaxInt - 9} {
				// Other ticks have other numbers, the later ones the lesser.
				want = append(want, api.Timer{Kind: kind, ID: id + len(ticks) - i, At: at})
			}
		}
	}
	for _, now := range edges {
		d := due.New(now)
		for i := range want {
			x := want[i*101%len(want)]
			if e := d.Set(x.Kind, x.ID, x.At); e != api.OK {
				t.Fatal(e)
			}
		}
		for i, x := range want {
			if d.Len() != len(want)-i {
				t.Fatalf("%d timers; want %d", d.Len(), len(want)-i)
			}
			if got, ok := d.First(end); got != x || !ok || d.Now() != max(now, x.At) {
				t.Fatalf("First = %v, %t at %#x; want %v at %#x", got, ok, d.Now(), x, max(now, x.At))
			}
		}
	}
}

// A timer is taken from its tick on, not one tick before it, and now becomes
// its tick, not the one that is asked for.
func TestFirstIsExact(t *testing.T) {
	for _, now := range edges {
		for _, at := range edges {
			for _, to := range edges {
				p := newPair(t, now)
				p.set(2, 4, at)
				if at > 0 {
					p.first(at - 1)
				}
				p.first(to)
				p.first(at)
				p.first(end)
			}
		}
	}
}

// What was due before now can be asked for tick by tick.
func TestFirstBeforeNow(t *testing.T) {
	p := newPair(t, 100)
	for i, at := range []uint64{50, 70, 99, 100, 101, 0, 50} {
		p.set(1+i%4, i, at)
	}
	for _, to := range []uint64{0, 0, 49, 50, 50, 50, 69, 98, 99, 99, 99, 100, 100, 0, 100, 101, end} {
		p.first(to)
	}
	if p.d.Len() != 0 {
		t.Errorf("%d timers are left", p.d.Len())
	}
}

// A First that finds nothing leaves everything, wherever it looks.
func TestFirstFindsNothing(t *testing.T) {
	p := newPair(t, 100)
	p.set(1, 1, 200)
	p.set(1, 2, 150)
	for _, to := range []uint64{149, 0, 99, 100, 101, 149} {
		if x, ok := p.d.First(to); ok || x != (api.Timer{}) {
			t.Errorf("First(%d) = %v, %t", to, x, ok)
		}
		p.same()
	}
	p.empty()
}

func TestGo(t *testing.T) {
	for _, now := range edges {
		for _, at := range edges {
			for _, to := range edges {
				p := newPair(t, now)
				p.set(4, 1, at)
				p.pass(to)
				if at > 0 {
					p.pass(at - 1)
				}
				p.pass(at)
				p.first(at)
				p.pass(to)
				p.pass(at)
			}
		}
	}
}

// Several timers of one tick hold time up until the last one is taken or
// cleared.
func TestGoWaitsForAll(t *testing.T) {
	p := newPair(t, 5)
	for id := range 4 {
		p.set(3, id, 9)
	}
	p.pass(8)
	for _, step := range []func(){func() { p.first(9) }, func() { p.clear(3, 2) }, func() { p.first(20) }} {
		p.pass(9)
		p.pass(30)
		step()
	}
	p.pass(8)
	if p.pass(9); p.d.Now() != 9 {
		t.Errorf("Now = %d", p.d.Now())
	}
	p.first(9)
	p.pass(30)
}

func TestNil(t *testing.T) {
	var d *due.Due
	for _, n := range append(valid(), invalid()...) {
		for _, at := range []uint64{0, 1, end} {
			if e := d.Set(n.kind, n.id, at); e != api.ErrState {
				t.Errorf("Set(%d, %d, %#x) = %d", n.kind, n.id, at, e)
			}
		}
		if d.Clear(n.kind, n.id) {
			t.Errorf("Clear(%d, %d) = true", n.kind, n.id)
		}
		if at, ok := d.At(n.kind, n.id); at != 0 || ok {
			t.Errorf("At(%d, %d) = %#x, %t", n.kind, n.id, at, ok)
		}
	}
	for _, to := range edges {
		if x, ok := d.First(to); x != (api.Timer{}) || ok {
			t.Errorf("First(%#x) = %v, %t", to, x, ok)
		}
		if d.Go(to) {
			t.Errorf("Go(%#x) = true", to)
		}
	}
	if at, ok := d.Next(); at != 0 || ok {
		t.Errorf("Next = %#x, %t", at, ok)
	}
	if d.Now() != 0 || d.Len() != 0 {
		t.Errorf("Now = %#x, Len = %d", d.Now(), d.Len())
	}
}

// P9.3

// burst returns a set of timers that are all due at one tick, set in disorder.
func burst(t *testing.T, n int, now, at uint64) *due.Due {
	t.Helper()
	d := due.New(now)
	for i := range n {
		i = i * 7919 % n
		if e := d.Set(1+i%4, i/4, at); e != api.OK {
			t.Fatal(e)
		}
	}
	return d
}

// expectOrder fails the test unless First returns n timers of a tick, each of
// them after the one before it.
func expectOrder(t *testing.T, d *due.Due, n int, at uint64) {
	t.Helper()
	before := api.Timer{At: at}
	for range n {
		x, ok := d.First(at)
		if !ok || x.At != at || compare(before, x) >= 0 {
			t.Fatalf("First(%#x) = %v, %t after %v", at, x, ok, before)
		}
		before = x
	}
}

// This also holds First to take one timer of many at a time without going
// through all the others.
func TestFirstTakesTimersOfATickInOrder(t *testing.T) {
	const n = 40_000
	for _, now := range []uint64{0, 77, 1000} {
		for _, at := range []uint64{0, 77, 1 << 40, end} {
			d := burst(t, n, now, at)
			expectOrder(t, d, n, at)
			if x, ok := d.First(end); ok || d.Len() != 0 {
				t.Fatalf("First = %v with %d timers left", x, d.Len())
			}
		}
	}
}

// Timers that are cleared in between don't come, and change no order.
func TestFirstAfterClears(t *testing.T) {
	const n = 400
	for _, now := range []uint64{0, 77, 1000} {
		d := burst(t, n, now, 77)
		d.Set(1, 5000, 78)
		expectOrder(t, d, 10, 77)
		left := d.Len() - 1
		for i := range n {
			if i%3 == 0 && d.Clear(1+i%4, i/4) {
				left--
			}
		}
		expectOrder(t, d, left, 77)
		if x, ok := d.First(77); ok || d.Len() != 1 {
			t.Fatalf("First = %v with %d timers left", x, d.Len())
		}
	}
}

// Timers that are set in between, at the tick itself too, come in their turn.
func TestFirstAfterSets(t *testing.T) {
	for _, now := range []uint64{0, 77, 1000} {
		p := newPair(t, now)
		for i := range 40 {
			p.set(1+i%4, 10*i, 77)
		}
		for i := range 40 {
			p.first(77)
			p.set(1+i*3%4, i*7%50, 77)
			p.set(4, 200+i, 70+uint64(i)%16)
		}
		p.empty()
	}
}

// All promises, for any calls.

// near returns a tick that is near another one, or elsewhere.
func near(r *rand.Rand, at uint64) uint64 {
	switch r.IntN(6) {
	case 0:
		return at
	case 1:
		return at + uint64(r.IntN(20))
	case 2:
		return at - uint64(r.IntN(5))
	case 3:
		return edges[r.IntN(len(edges))]
	case 4:
		return r.Uint64() >> r.IntN(64)
	}
	return at + uint64(r.IntN(3))
}

// any makes one call with any arguments.
func (p pair) any(r *rand.Rand) {
	p.t.Helper()
	kind, id := r.IntN(6), r.IntN(8)-1
	if r.IntN(4) == 0 {
		id += api.MaxInt - 4
	}
	switch r.IntN(8) {
	case 0:
		p.clear(kind, id)
	case 1:
		p.pass(near(r, p.m.now))
	case 2:
		p.first(near(r, p.m.now))
	case 3:
		if l := p.m.list(); len(l) > 0 {
			p.first(l[r.IntN(len(l))].At)
		}
	default:
		p.set(kind, id, near(r, p.m.now))
	}
}

func TestAnyCalls(t *testing.T) {
	for seed := range uint64(600) {
		r := rand.New(rand.NewPCG(9, seed))
		p := newPair(t, near(r, 1<<r.IntN(64)))
		for range 200 {
			p.any(r)
		}
		p.empty()
	}
}

// The same calls have the same results, though timers are kept in maps.
func TestSameCallsSameResults(t *testing.T) {
	run := func() []api.Timer {
		d := due.New(300)
		var l []api.Timer
		for i := range 2000 {
			d.Set(1+i%4, i, uint64(i*i%1009))
			if x, ok := d.First(uint64(i / 4)); ok {
				l = append(l, x)
			}
		}
		for x, ok := d.First(end); ok; x, ok = d.First(end) {
			l = append(l, x)
		}
		return l
	}
	first := run()
	for range 5 {
		if !slices.Equal(run(), first) {
			t.Fatal("the same calls return different timers")
		}
	}
}
