package fifo_test

import (
	"math"
	"math/rand/v2"
	"slices"
	"testing"

	"billet/api"
	"billet/fifo"
)

const (
	greatest = math.MaxInt
	least    = math.MinInt
)

// ids are those of items, and ones that no item has.
var ids = []int{least, -1 << 32, -2, -1, 0, 1, 2, 3, 63, 64, 65, 1 << 32, 1<<32 + 1, greatest - 1, greatest}

// costs are ordinary ones, the least and the greatest one, and invalid ones,
// some of which would be valid as numbers of fewer bits.
var costs = []int{least, least + 1, -65, -64, -1, 0, 1, 2, 63, 64, 65, 1<<8 + 1, 1<<32 + 1, greatest}

// model is a queue that looks through all of its items.
type model struct {
	items []api.Item
}

func (m *model) place(id int) int {
	return slices.IndexFunc(m.items, func(x api.Item) bool { return x.ID == id })
}

func (m *model) push(x api.Item) api.Errno {
	switch {
	case x.ID < 1 || x.Cost < 1 || x.Cost > 64:
		return api.ErrArg
	case m.place(x.ID) >= 0:
		return api.ErrThere
	}
	m.items = append(m.items, x)
	return api.OK
}

func (m *model) head() (api.Item, bool) {
	if len(m.items) == 0 {
		return api.Item{}, false
	}
	return m.items[0], true
}

func (m *model) drop(id int) (api.Item, bool) {
	i := m.place(id)
	if i < 0 {
		return api.Item{}, false
	}
	x := m.items[i]
	m.items = slices.Delete(m.items, i, i+1)
	return x, true
}

func (m *model) pop() (api.Item, bool) {
	x, _ := m.head()
	return m.drop(x.ID)
}

func (m *model) cost() int {
	sum := 0
	for _, x := range m.items {
		sum += x.Cost
	}
	return sum
}

// pair is a queue with its model; each call goes to both, and their answers and
// what is in them afterwards must be the same.
type pair struct {
	t *testing.T
	q *fifo.Queue
	m *model
}

func newPair(t *testing.T) pair {
	t.Helper()
	q := fifo.New()
	if q == nil {
		t.Fatal("New() = nil")
	}
	p := pair{t, q, &model{}}
	p.same()
	return p
}

// filled returns a pair with n items whose IDs are 1, 2, .. in this order, and
// whose costs all differ up to 64 items.
func filled(t *testing.T, n int) pair {
	t.Helper()
	p := newPair(t)
	for i := range n {
		p.push(api.Item{ID: i + 1, Cost: 64 - i%64})
	}
	return p
}

func (p pair) same() {
	p.t.Helper()
	expectItems(p.t, p.q, p.m.items)
	want, some := p.m.head()
	if x, ok := p.q.Head(); x != want || ok != some {
		p.t.Fatalf("Head = %v, %t; want %v, %t", x, ok, want, some)
	}
	for _, id := range ids {
		if there := p.m.place(id) >= 0; p.q.Has(id) != there {
			p.t.Fatalf("Has(%d) = %t of %v", id, !there, p.m.items)
		}
	}
	for _, x := range p.m.items {
		if !p.q.Has(x.ID) {
			p.t.Fatalf("Has(%d) = false of %v", x.ID, p.m.items)
		}
	}
}

func (p pair) push(x api.Item) {
	p.t.Helper()
	want := p.m.push(x)
	if e := p.q.Push(x); e != want {
		p.t.Fatalf("Push(%v) = %d; want %d", x, e, want)
	}
	p.same()
}

func (p pair) pop() {
	p.t.Helper()
	want, some := p.m.pop()
	if x, ok := p.q.Pop(); x != want || ok != some {
		p.t.Fatalf("Pop = %v, %t; want %v, %t", x, ok, want, some)
	}
	p.same()
}

func (p pair) drop(id int) {
	p.t.Helper()
	want, there := p.m.drop(id)
	if x, ok := p.q.Drop(id); x != want || ok != there {
		p.t.Fatalf("Drop(%d) = %v, %t; want %v, %t", id, x, ok, want, there)
	}
	p.same()
}

// expectItems fails the test unless a queue has these items in order, and their
// number and the sum of their costs.
func expectItems(t *testing.T, q *fifo.Queue, want []api.Item) {
	t.Helper()
	sum := (&model{want}).cost()
	if got := q.All(); !slices.Equal(got, want) || q.Len() != len(want) || q.Cost() != sum {
		t.Fatalf("All = %v, Len = %d, Cost = %d; want %v, %d, %d", got, q.Len(), q.Cost(), want, len(want), sum)
	}
}

// expectEmpty fails the test unless a queue answers as one without items does.
func expectEmpty(t *testing.T, q *fifo.Queue) {
	t.Helper()
	expectItems(t, q, nil)
	if x, ok := q.Head(); x != (api.Item{}) || ok {
		t.Errorf("Head = %v, %t", x, ok)
	}
	if x, ok := q.Pop(); x != (api.Item{}) || ok {
		t.Errorf("Pop = %v, %t", x, ok)
	}
	for _, id := range ids {
		if q.Has(id) {
			t.Errorf("Has(%d) = true", id)
		}
		if x, ok := q.Drop(id); x != (api.Item{}) || ok {
			t.Errorf("Drop(%d) = %v, %t", id, x, ok)
		}
	}
	expectItems(t, q, nil)
}

// P14.1

func TestExample(t *testing.T) {
	q := fifo.New()
	for _, x := range []api.Item{{ID: 1, Cost: 5}, {ID: 2, Cost: 3}} {
		if e := q.Push(x); e != api.OK {
			t.Fatalf("Push(%v) = %d", x, e)
		}
	}
	if x, ok := q.Drop(1); x != (api.Item{ID: 1, Cost: 5}) || !ok {
		t.Fatalf("Drop(1) = %v, %t", x, ok)
	}
	if x, ok := q.Head(); x != (api.Item{ID: 2, Cost: 3}) || !ok {
		t.Fatalf("Head = %v, %t", x, ok)
	}
}

func TestNewQueueIsEmpty(t *testing.T) {
	expectEmpty(t, fifo.New())
}

func TestQueueBecomesEmptyAgain(t *testing.T) {
	p := filled(t, 3)
	for range 3 {
		p.pop()
	}
	expectEmpty(t, p.q)
	p.push(api.Item{ID: 2, Cost: 7})
	p.drop(2)
	expectEmpty(t, p.q)
	p.push(api.Item{ID: 1, Cost: 64})
	p.push(api.Item{ID: 2, Cost: 1})
	p.pop()
	p.pop()
	expectEmpty(t, p.q)
}

// Each ID with each cost, in an empty queue, in one with other items, and in one
// that contains the ID, where what is invalid comes before what is there.
func TestPushArguments(t *testing.T) {
	for _, id := range ids {
		for _, cost := range costs {
			x := api.Item{ID: id, Cost: cost}
			p := newPair(t)
			p.push(x)
			p = newPair(t)
			p.push(api.Item{ID: 1000, Cost: 1})
			p.push(x)
			p.push(api.Item{ID: 1001, Cost: 64})
			p.push(x)
			p = newPair(t)
			p.push(api.Item{ID: id, Cost: 30})
			p.push(x)
		}
	}
}

func TestPushErrors(t *testing.T) {
	q := fifo.New()
	for _, step := range []struct {
		id, cost int
		want     api.Errno
	}{
		{0, 1, 1}, {-1, 1, 1}, {least, 1, 1},
		{1, 0, 1}, {1, -1, 1}, {1, 65, 1}, {1, least, 1}, {1, greatest, 1},
		{0, 0, 1}, {0, 65, 1},
		{1, 1, 0}, {2, 64, 0}, {greatest, 64, 0},
		{1, 1, 8}, {1, 2, 8}, {2, 1, 8}, {greatest, 64, 8},
		{1, 0, 1}, {1, 65, 1}, {greatest, 65, 1},
		{3, 1, 0},
	} {
		if e := q.Push(api.Item{ID: step.id, Cost: step.cost}); e != step.want {
			t.Errorf("Push({%d %d}) = %d; want %d", step.id, step.cost, e, step.want)
		}
	}
	expectItems(t, q, []api.Item{{ID: 1, Cost: 1}, {ID: 2, Cost: 64}, {ID: greatest, Cost: 64}, {ID: 3, Cost: 1}})
}

func TestPushToNilQueue(t *testing.T) {
	var q *fifo.Queue
	for _, id := range ids {
		for _, cost := range costs {
			if e := q.Push(api.Item{ID: id, Cost: cost}); e != api.ErrState {
				t.Errorf("Push({%d %d}) = %d; want %d", id, cost, e, api.ErrState)
			}
		}
	}
}

// The order is that of the calls, not of the IDs or of the costs.
func TestOrderOfPushes(t *testing.T) {
	p := newPair(t)
	for _, x := range []api.Item{{ID: 9, Cost: 2}, {ID: 1, Cost: 64}, {ID: greatest, Cost: 1}, {ID: 5, Cost: 64}, {ID: 2, Cost: 3}} {
		p.push(x)
	}
	for range 6 {
		p.pop()
	}
}

// Head removes nothing, however often it is called.
func TestHeadLeavesTheQueue(t *testing.T) {
	p := filled(t, 3)
	for range 3 {
		if x, ok := p.q.Head(); x != (api.Item{ID: 1, Cost: 64}) || !ok {
			t.Fatalf("Head = %v, %t", x, ok)
		}
	}
	p.same()
}

// An item is removed from each place of queues of each length; when it is pushed
// again, it is the last one.
func TestDropFromEachPlace(t *testing.T) {
	for n := range 7 {
		for id := range n + 2 {
			p := filled(t, n)
			p.drop(id)
			p.drop(id)
			p.push(api.Item{ID: id, Cost: 9})
			p.push(api.Item{ID: n + 2, Cost: 10})
			p.drop(id)
			for p.q.Len() > 0 {
				p.pop()
			}
		}
	}
}

// dropAll drops the items of rest in every order, after those of dropped.
func dropAll(t *testing.T, n int, dropped, rest []int) {
	t.Helper()
	if len(rest) == 0 {
		p := filled(t, n)
		for _, id := range dropped {
			p.drop(id)
		}
		expectEmpty(t, p.q)
	}
	for i, id := range rest {
		dropAll(t, n, append(slices.Clone(dropped), id), slices.Delete(slices.Clone(rest), i, i+1))
	}
}

func TestDropInEveryOrder(t *testing.T) {
	for n := range 6 {
		var all []int
		for i := range n {
			all = append(all, i+1)
		}
		dropAll(t, n, nil, all)
	}
}

// Every sequence of six calls with three IDs.
func TestEverySequence(t *testing.T) {
	const calls, length = 7, 6
	sequences := 1
	for range length {
		sequences *= calls
	}
	for s := range sequences {
		p := newPair(t)
		rest := s
		for i := range length {
			switch call := rest % calls; {
			case call < 3:
				p.push(api.Item{ID: call + 1, Cost: 1 + 10*i})
			case call < 6:
				p.drop(call - 2)
			default:
				p.pop()
			}
			rest /= calls
		}
	}
}

func TestAnyMixOfCalls(t *testing.T) {
	r := rand.New(rand.NewPCG(14, 1))
	for range 400 {
		p := newPair(t)
		some := 1 + r.IntN(40)
		for range 200 {
			// IDs and costs that are invalid come too, but less often.
			id, cost := r.IntN(some+2)-1, r.IntN(70)-2
			switch r.IntN(5) {
			case 0:
				p.pop()
			case 1:
				p.drop(id)
			default:
				p.push(api.Item{ID: id, Cost: cost})
			}
		}
	}
}

// Neither queue knows of what is in the other one.
func TestTwoQueues(t *testing.T) {
	p, other := filled(t, 3), newPair(t)
	other.push(api.Item{ID: 2, Cost: 5})
	other.push(api.Item{ID: 1, Cost: 6})
	p.drop(2)
	other.same()
	other.pop()
	p.same()
	p.push(api.Item{ID: 2, Cost: 1})
	other.same()
}

// Each call takes about as long in a long queue as in a short one; with calls
// that go through the queue this test would not end in time.
func TestLongQueue(t *testing.T) {
	const n = 300_000
	q := fifo.New()
	for i := range n {
		if e := q.Push(api.Item{ID: n - i, Cost: 64}); e != api.OK {
			t.Fatalf("Push = %d", e)
		}
	}
	for i := range n / 3 {
		id := n/3 + i + 1
		if x, ok := q.Drop(id); x != (api.Item{ID: id, Cost: 64}) || !ok || q.Has(id) {
			t.Fatalf("Drop(%d) = %v, %t", id, x, ok)
		}
	}
	for i := range 2 * n / 3 {
		want := api.Item{ID: n - i, Cost: 64}
		if i >= n/3 {
			want.ID -= n / 3
		}
		left := 2*n/3 - i
		if q.Len() != left || q.Cost() != 64*left {
			t.Fatalf("Len = %d, Cost = %d; want %d, %d", q.Len(), q.Cost(), left, 64*left)
		}
		if x, ok := q.Head(); x != want || !ok {
			t.Fatalf("Head = %v, %t; want %v", x, ok, want)
		}
		if x, ok := q.Pop(); x != want || !ok {
			t.Fatalf("Pop = %v, %t; want %v", x, ok, want)
		}
	}
	expectEmpty(t, q)
}

// P14.2

func TestHas(t *testing.T) {
	p := filled(t, 3)
	p.drop(2)
	for id, want := range []bool{false, true, false, true, false} {
		if p.q.Has(id) != want {
			t.Errorf("Has(%d) = %t", id, !want)
		}
	}
	p.pop()
	p.push(api.Item{ID: 2, Cost: 1})
	for id, want := range []bool{false, false, true, true, false} {
		if p.q.Has(id) != want {
			t.Errorf("Has(%d) = %t", id, !want)
		}
	}
}

func TestLenAndCost(t *testing.T) {
	q := fifo.New()
	expect := func(n, cost int) {
		t.Helper()
		if q.Len() != n || q.Cost() != cost {
			t.Errorf("Len = %d, Cost = %d; want %d, %d", q.Len(), q.Cost(), n, cost)
		}
	}
	expect(0, 0)
	q.Push(api.Item{ID: 1, Cost: 64})
	expect(1, 64)
	q.Push(api.Item{ID: 2, Cost: 1})
	expect(2, 65)
	q.Push(api.Item{ID: 3, Cost: 10})
	expect(3, 75)
	q.Push(api.Item{ID: 3, Cost: 20})
	q.Push(api.Item{ID: 4, Cost: 65})
	q.Push(api.Item{ID: 4, Cost: -1})
	expect(3, 75)
	q.Drop(3)
	expect(2, 65)
	q.Drop(3)
	q.Drop(0)
	expect(2, 65)
	q.Pop()
	expect(1, 1)
	q.Pop()
	expect(0, 0)
	q.Pop()
	expect(0, 0)
}

// The items belong to the caller: neither does a change of them reach the queue,
// nor a change of the queue them.
func TestItemsAreTheCallers(t *testing.T) {
	p := filled(t, 4)
	items, other := p.q.All(), p.q.All()
	want := slices.Clone(items)
	items[0], items[1] = api.Item{ID: 8, Cost: 8}, api.Item{}
	_ = append(items[:1], api.Item{ID: 7, Cost: 7}, api.Item{ID: 6, Cost: 6})
	p.same()
	p.drop(2)
	p.pop()
	p.push(api.Item{ID: 1, Cost: 3})
	if !slices.Equal(other, want) {
		t.Errorf("an earlier All has become %v; want %v", other, want)
	}
}

func TestNilQueue(t *testing.T) {
	expectEmpty(t, nil)
}
