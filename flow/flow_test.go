package flow_test

import (
	"maps"
	"math"
	"math/rand/v2"
	"slices"
	"testing"

	"billet/api"
	"billet/flow"
)

const (
	greatest = math.MaxInt
	least    = math.MinInt
)

// numbers are those of flows, and ones that no flow has.
var numbers = []int{least, -1 << 32, -2, -1, 0, 1, 2, 3, 9, 1 << 32, 1<<32 + 1, greatest}

// weights are ordinary ones, the least and the greatest one, and invalid ones,
// some of which would be valid as numbers of fewer bits.
var weights = []int{least, -16, -1, 0, 1, 2, 15, 16, 17, 1<<8 + 1, 1<<32 + 1, greatest}

// quanta are invalid ones.
var quanta = []int{least, least + 1, -64, -1, 0, 65, 66, 1<<8 + 1, 1<<32 + 1, greatest}

// item returns an item with a cost that differs from that of the next ID.
func item(id int) api.Item {
	return api.Item{ID: id, Cost: 1 + id%7*10}
}

// model is a ring as the chapter has it, the visited flow first.
type model struct {
	quantum int
	rows    []flow.Row
	given   bool
}

func (m *model) place(number int) int {
	return slices.IndexFunc(m.rows, func(row flow.Row) bool { return row.Flow == number })
}

func (m *model) push(number, weight int, x api.Item) api.Errno {
	i := m.place(number)
	switch {
	case number < 0 || weight < 1 || weight > 16 || i >= 0 && m.rows[i].Weight != weight:
		return api.ErrArg
	case x.ID < 1 || x.Cost < 1 || x.Cost > 64:
		return api.ErrArg
	case i < 0:
		m.rows = append(m.rows, flow.Row{Flow: number, Weight: weight, Items: []api.Item{x}})
		return api.OK
	case slices.ContainsFunc(m.rows[i].Items, func(y api.Item) bool { return y.ID == x.ID }):
		return api.ErrThere
	}
	m.rows[i].Items = append(m.rows[i].Items, x)
	return api.OK
}

func (m *model) pick() (int, api.Item, bool) {
	if len(m.rows) == 0 {
		return 0, api.Item{}, false
	}
	for {
		first := &m.rows[0]
		if !m.given {
			first.Deficit += m.quantum * first.Weight
			m.given = true
		}
		if first.Items[0].Cost <= first.Deficit {
			return first.Flow, first.Items[0], true
		}
		m.rows = append(m.rows[1:], *first)
		m.given = false
	}
}

func (m *model) take() (int, api.Item, bool) {
	number, x, some := m.pick()
	if some {
		m.rows[0].Deficit -= x.Cost
		m.drop(number, x.ID)
	}
	return number, x, some
}

func (m *model) drop(number, id int) bool {
	i := m.place(number)
	if i < 0 {
		return false
	}
	items := m.rows[i].Items
	j := slices.IndexFunc(items, func(x api.Item) bool { return x.ID == id })
	if j < 0 {
		return false
	}
	m.rows[i].Items = slices.Delete(items, j, j+1)
	if len(m.rows[i].Items) == 0 {
		m.rows = slices.Delete(m.rows, i, i+1)
		m.given = m.given && i > 0
	}
	return true
}

// pair is a ring with its model; each call goes to both, and their answers and
// what is in them afterwards must be the same.
type pair struct {
	t *testing.T
	r *flow.Ring
	m *model
}

func newPair(t *testing.T, quantum int) pair {
	t.Helper()
	r := flow.New(quantum)
	if r == nil {
		t.Fatalf("New(%d) = nil", quantum)
	}
	p := pair{t, r, &model{quantum: quantum}}
	p.same()
	return p
}

// filled returns a pair with the quantum 3 and as many flows, with the numbers
// 1, 2, .. and growing weights, in each of which wait so many items.
func filled(t *testing.T, flows, items int) pair {
	t.Helper()
	p := newPair(t, 3)
	for number := 1; number <= flows; number++ {
		for i := range items {
			p.push(number, number, item(number+5*i))
		}
	}
	return p
}

func equal(a, b flow.Row) bool {
	return a.Flow == b.Flow && a.Weight == b.Weight && a.Deficit == b.Deficit && slices.Equal(a.Items, b.Items)
}

func (p pair) same() {
	p.t.Helper()
	if rows, given := p.r.Rows(), p.r.Given(); !slices.EqualFunc(rows, p.m.rows, equal) || given != p.m.given {
		p.t.Fatalf("Rows = %v, Given = %t; want %v, %t", rows, given, p.m.rows, p.m.given)
	}
	for _, number := range numbers {
		var want flow.Row
		if i := p.m.place(number); i >= 0 {
			want = p.m.rows[i]
		}
		if n, deficit := p.r.Len(number), p.r.Deficit(number); n != len(want.Items) || deficit != want.Deficit {
			p.t.Fatalf("Len(%d) = %d, Deficit = %d of %v", number, n, deficit, p.m.rows)
		}
	}
}

func (p pair) push(number, weight int, x api.Item) {
	p.t.Helper()
	want := p.m.push(number, weight, x)
	if e := p.r.Push(number, weight, x); e != want {
		p.t.Fatalf("Push(%d, %d, %v) = %d; want %d", number, weight, x, e, want)
	}
	p.same()
}

func (p pair) pick() {
	p.t.Helper()
	number, x, some := p.m.pick()
	// What Pick returns does not change by Pick itself.
	for range 2 {
		if n, y, ok := p.r.Pick(); n != number || y != x || ok != some {
			p.t.Fatalf("Pick = %d, %v, %t; want %d, %v, %t", n, y, ok, number, x, some)
		}
		p.same()
	}
}

func (p pair) take() {
	p.t.Helper()
	number, x, some := p.m.take()
	if n, y, ok := p.r.Take(); n != number || y != x || ok != some {
		p.t.Fatalf("Take = %d, %v, %t; want %d, %v, %t", n, y, ok, number, x, some)
	}
	p.same()
}

func (p pair) drop(number, id int) {
	p.t.Helper()
	want := p.m.drop(number, id)
	if there := p.r.Drop(number, id); there != want {
		p.t.Fatalf("Drop(%d, %d) = %t; want %t", number, id, there, want)
	}
	p.same()
}

// empty takes everything.
func (p pair) empty() {
	p.t.Helper()
	for len(p.m.rows) > 0 {
		p.take()
	}
	expectEmpty(p.t, p.r)
}

// again returns a pair of the ring that Load returns for p's.
func (p pair) again() pair {
	p.t.Helper()
	return loaded(p.t, p.m.quantum, p.r.Rows(), p.r.Given())
}

// expectEmpty fails the test unless a ring answers as one without flows does.
func expectEmpty(t *testing.T, r *flow.Ring) {
	t.Helper()
	if rows, given := r.Rows(), r.Given(); len(rows) != 0 || given {
		t.Errorf("Rows = %v, Given = %t", rows, given)
	}
	for _, call := range []func() (int, api.Item, bool){r.Pick, r.Take} {
		if number, x, ok := call(); number != 0 || x != (api.Item{}) || ok {
			t.Errorf("Pick or Take = %d, %v, %t", number, x, ok)
		}
	}
	for _, number := range numbers {
		if n, deficit := r.Len(number), r.Deficit(number); n != 0 || deficit != 0 {
			t.Errorf("Len(%d) = %d, Deficit = %d", number, n, deficit)
		}
		for _, id := range numbers {
			if r.Drop(number, id) {
				t.Errorf("Drop(%d, %d) = true", number, id)
			}
		}
	}
	if rows, given := r.Rows(), r.Given(); len(rows) != 0 || given {
		t.Errorf("Rows = %v, Given = %t in the end", rows, given)
	}
}

// expectTaken fails the test unless Take returns items of these flows.
func expectTaken(t *testing.T, r *flow.Ring, want ...int) {
	t.Helper()
	var got []int
	for range want {
		number, _, ok := r.Take()
		if !ok {
			t.Fatalf("nothing after items of %v", got)
		}
		got = append(got, number)
	}
	if !slices.Equal(got, want) {
		t.Fatalf("Take returns items of %v; want %v", got, want)
	}
}

// P15.1

func TestNew(t *testing.T) {
	for quantum := 1; quantum <= 64; quantum++ {
		expectEmpty(t, flow.New(quantum))
		p := newPair(t, quantum)
		p.push(1, 16, api.Item{ID: 1, Cost: 64})
		p.push(2, 1, api.Item{ID: 1, Cost: 64})
		p.pick()
		p.empty()
	}
}

func TestNoQuantum(t *testing.T) {
	for _, quantum := range quanta {
		if flow.New(quantum) != nil {
			t.Errorf("New(%d) is a ring", quantum)
		}
	}
}

// Each flow with each weight, into rings without and with other flows, and into
// flows that are there with another weight or with the same one.
func TestPushArguments(t *testing.T) {
	for _, number := range numbers {
		for _, weight := range weights {
			for _, x := range []api.Item{{ID: 1, Cost: 1}, {ID: greatest, Cost: 64}, {}, {ID: -1, Cost: 5}, {ID: 1, Cost: 65}} {
				p := newPair(t, 4)
				p.push(number, weight, x)
				p.push(number, weight, x)
				p.push(5, 2, item(1))
				p.push(number, 3, item(2))
				p.push(number, weight, item(3))
				p.push(number, weight, x)
				p.pick()
				p.push(number, weight, item(4))
				p.empty()
			}
		}
	}
}

func TestPushErrors(t *testing.T) {
	r := flow.New(1)
	for _, step := range []struct {
		flow, weight, id, cost int
		want                   api.Errno
	}{
		{-1, 1, 1, 1, 1}, {least, 1, 1, 1, 1},
		{0, 0, 1, 1, 1}, {0, -1, 1, 1, 1}, {0, 17, 1, 1, 1}, {0, least, 1, 1, 1}, {0, greatest, 1, 1, 1},
		{0, 1, 0, 1, 1}, {0, 1, 1, 0, 1}, {0, 1, 1, 65, 1}, {0, 1, -1, -1, 1},
		{0, 1, 1, 1, 0}, {0, 1, 2, 64, 0}, {greatest, 16, 1, 1, 0},
		// Another weight is invalid, for an item that is there too.
		{0, 2, 3, 1, 1}, {0, 16, 1, 1, 1}, {greatest, 15, 2, 1, 1}, {greatest, 17, 2, 1, 1},
		{0, 1, 1, 1, 8}, {0, 1, 2, 5, 8}, {greatest, 16, 1, 64, 8},
		// An invalid item comes before one that is there.
		{0, 1, 1, 0, 1}, {0, 1, 2, 65, 1},
		{0, 1, 3, 1, 0},
	} {
		if e := r.Push(step.flow, step.weight, api.Item{ID: step.id, Cost: step.cost}); e != step.want {
			t.Errorf("Push(%d, %d, {%d %d}) = %d; want %d", step.flow, step.weight, step.id, step.cost, e, step.want)
		}
	}
	if r.Len(0) != 3 || r.Len(greatest) != 1 || len(r.Rows()) != 2 {
		t.Errorf("Rows = %v", r.Rows())
	}
}

// What is refused leaves no flow behind, whose number would then have a weight.
func TestPushThatFailsAppendsNoFlow(t *testing.T) {
	p := newPair(t, 1)
	p.push(1, 5, api.Item{ID: 0, Cost: 1})
	p.push(1, 5, api.Item{ID: 1, Cost: 65})
	expectEmpty(t, p.r)
	p.push(1, 6, item(1))
	p.empty()
}

func TestPushToNilRing(t *testing.T) {
	var r *flow.Ring
	for _, number := range numbers {
		for _, weight := range weights {
			for _, x := range []api.Item{{}, {ID: 1, Cost: 1}} {
				if e := r.Push(number, weight, x); e != api.ErrState {
					t.Errorf("Push(%d, %d, %v) = %d; want %d", number, weight, x, e, api.ErrState)
				}
			}
		}
	}
}

// A flow that comes back has another place, the deficit 0, and any weight.
func TestFlowComesBack(t *testing.T) {
	p := newPair(t, 8)
	p.push(1, 2, api.Item{ID: 1, Cost: 1})
	p.push(2, 2, api.Item{ID: 1, Cost: 1})
	p.take()
	if d := p.r.Deficit(1); d != 0 || p.r.Given() {
		t.Errorf("Deficit = %d of a flow that was removed, Given = %t", d, p.r.Given())
	}
	p.push(1, 3, api.Item{ID: 1, Cost: 2})
	if rows := p.r.Rows(); len(rows) != 2 || rows[1].Flow != 1 || rows[1].Weight != 3 || rows[1].Deficit != 0 {
		t.Errorf("Rows = %v", rows)
	}
	p.empty()
}

// IDs have to differ within a flow only.
func TestSameItemsInTwoFlows(t *testing.T) {
	p := newPair(t, 1)
	for id := 1; id <= 3; id++ {
		p.push(1, 1, item(id))
		p.push(2, 1, item(id))
	}
	p.drop(1, 2)
	p.drop(1, 2)
	p.drop(2, 2)
	p.empty()
}

// P15.2

func TestExample(t *testing.T) {
	r := flow.New(2)
	for id := 1; id <= 6; id++ {
		r.Push(0, 1, api.Item{ID: id, Cost: 2})
		r.Push(1, 2, api.Item{ID: id, Cost: 2})
	}
	expectTaken(t, r, 0, 1, 1, 0, 1, 1, 0, 1, 1)
}

// Items come in the order of their pushes within a flow.
func TestOrderWithinAFlow(t *testing.T) {
	r := flow.New(64)
	want := []api.Item{item(9), item(1), item(greatest), item(4)}
	for _, x := range want {
		r.Push(3, 1, x)
	}
	for _, x := range want {
		if number, y, ok := r.Take(); number != 3 || y != x || !ok {
			t.Fatalf("Take = %d, %v, %t; want 3, %v", number, y, ok, x)
		}
	}
	expectEmpty(t, r)
}

// A flow saves its quantum from visit to visit, until it covers an item.
func TestDeficitGrows(t *testing.T) {
	r := flow.New(1)
	r.Push(1, 1, api.Item{ID: 1, Cost: 64})
	r.Push(2, 2, api.Item{ID: 1, Cost: 63})
	r.Push(3, 16, api.Item{ID: 1, Cost: 1})
	expectTaken(t, r, 3)
	if r.Deficit(1) != 1 || r.Deficit(2) != 2 || r.Deficit(3) != 0 || r.Given() {
		t.Fatalf("Rows = %v, Given = %t", r.Rows(), r.Given())
	}
	if number, x, ok := r.Pick(); number != 2 || x.Cost != 63 || !ok || r.Deficit(1) != 32 || r.Deficit(2) != 64 || !r.Given() {
		t.Fatalf("Pick = %d, %v, %t; Rows = %v", number, x, ok, r.Rows())
	}
	expectTaken(t, r, 2)
	if number, _, _ := r.Pick(); number != 1 || r.Deficit(1) != 64 {
		t.Fatalf("Pick = %d, Rows = %v", number, r.Rows())
	}
}

// A single flow is visited again and again.
func TestOneFlow(t *testing.T) {
	for quantum := 1; quantum <= 64; quantum++ {
		for _, weight := range []int{1, 2, 16} {
			p := newPair(t, quantum)
			for id := 1; id <= 4; id++ {
				p.push(0, weight, api.Item{ID: id, Cost: 64 / id})
			}
			p.pick()
			if d := p.r.Deficit(0); d < 64 || d >= 64+quantum*weight || d%(quantum*weight) != 0 {
				t.Fatalf("Deficit = %d with quantum %d and weight %d", d, quantum, weight)
			}
			p.empty()
		}
	}
}

// The cost may be all of the deficit, but not one more.
func TestDeficitCoversTheCost(t *testing.T) {
	for cost := 1; cost <= 64; cost++ {
		p := newPair(t, 5)
		p.push(1, 4, api.Item{ID: 1, Cost: cost})
		p.push(2, 4, api.Item{ID: 1, Cost: 20})
		want := 1
		if cost > 20 {
			want = 2
		}
		if number, _, _ := p.r.Pick(); number != want {
			t.Errorf("Pick = %d for cost %d; want %d", number, cost, want)
		}
		p.pick()
		p.empty()
	}
}

// What Take leaves of the deficit is there for the next item of the same visit,
// but a flow that is given up loses it.
func TestTakeUsesUpTheDeficit(t *testing.T) {
	p := newPair(t, 10)
	for id := 1; id <= 5; id++ {
		p.push(1, 1, api.Item{ID: id, Cost: 4})
	}
	p.push(2, 1, api.Item{ID: 1, Cost: 4})
	for _, want := range []struct {
		flow, deficit int
		given         bool
	}{{1, 6, true}, {1, 2, true}, {2, 0, false}, {1, 8, true}, {1, 4, true}, {1, 0, false}} {
		if number, _, _ := p.r.Take(); number != want.flow || p.r.Deficit(number) != want.deficit || p.r.Given() != want.given {
			t.Fatalf("Take = %d, Deficit = %d, Given = %t; want %v", number, p.r.Deficit(number), p.r.Given(), want)
		}
		p.m.take()
		p.same()
	}
	expectEmpty(t, p.r)
}

// Pick moves flows to the end, and so does Take, in the same way.
func TestPickBeforeTake(t *testing.T) {
	p, q := filled(t, 5, 4), filled(t, 5, 4)
	for len(p.m.rows) > 0 {
		p.pick()
		p.take()
		q.take()
		if !slices.EqualFunc(p.r.Rows(), q.r.Rows(), equal) || p.r.Given() != q.r.Given() {
			t.Fatalf("Rows = %v after Pick and Take, and %v after Take", p.r.Rows(), q.r.Rows())
		}
	}
}

// Each flow is dropped from rings of each length, item by item, after any number
// of items were taken and with the visited flow given its quantum or not.
func TestDropFromEachPlace(t *testing.T) {
	for flows := range 6 {
		for number := range flows + 2 {
			for taken := range 2 * flows {
				for _, picked := range []bool{false, true} {
					p := filled(t, flows, 2)
					for range taken {
						p.take()
					}
					if picked {
						p.pick()
					}
					p.drop(number, number+5)
					p.drop(number, number)
					p.drop(number, number)
					p.pick()
					p.push(number, 1, item(3))
					p.empty()
				}
			}
		}
	}
}

// Only what the visited flow has been given goes with the flow that is dropped.
func TestDropOfTheVisitedFlow(t *testing.T) {
	visit := func() *flow.Ring {
		r := flow.New(8)
		for number := 1; number <= 3; number++ {
			r.Push(number, 1, api.Item{ID: 1, Cost: 1})
		}
		if number, _, _ := r.Pick(); number != 1 || !r.Given() {
			t.Fatalf("Pick = %d, Given = %t", number, r.Given())
		}
		return r
	}
	for number := 1; number <= 3; number++ {
		r := visit()
		if !r.Drop(number, 1) || r.Drop(number, 1) || r.Given() != (number != 1) {
			t.Errorf("without %d: Rows = %v, Given = %t", number, r.Rows(), r.Given())
		}
		first := r.Rows()[0]
		if number == 1 && (first.Flow != 2 || first.Deficit != 0) || number != 1 && (first.Flow != 1 || first.Deficit != 8) {
			t.Errorf("without %d: Rows = %v", number, r.Rows())
		}
		// What is not there is not dropped, and nothing changes.
		r = visit()
		if r.Drop(number, 2) || r.Drop(4, 1) || r.Drop(0, 1) || r.Drop(-1, 1) || !r.Given() || len(r.Rows()) != 3 {
			t.Errorf("with all: Rows = %v, Given = %t", r.Rows(), r.Given())
		}
	}
}

// As long as a flow has other items, it stays, with its deficit.
func TestDropOfTheFirstItem(t *testing.T) {
	p := newPair(t, 8)
	p.push(1, 1, api.Item{ID: 1, Cost: 2})
	p.push(1, 1, api.Item{ID: 2, Cost: 9})
	p.push(2, 1, api.Item{ID: 1, Cost: 9})
	p.pick()
	p.drop(1, 1)
	if p.r.Deficit(1) != 8 || !p.r.Given() {
		t.Errorf("Rows = %v, Given = %t", p.r.Rows(), p.r.Given())
	}
	p.pick()
	if p.r.Deficit(1) != 16 || p.r.Deficit(2) != 8 {
		t.Errorf("Rows = %v", p.r.Rows())
	}
	p.empty()
}

// do makes one of eleven calls with three flows and two items in each.
func (p pair) do(call, cost int) {
	p.t.Helper()
	number := call % 3
	switch call / 3 {
	case 0:
		p.push(number, 1+number, api.Item{ID: 1, Cost: cost})
	case 1:
		p.push(number, 1+number, api.Item{ID: 2, Cost: 2 * cost})
	case 2:
		p.drop(number, 1)
	default:
		if number == 0 {
			p.pick()
		} else {
			p.take()
		}
	}
}

// Every sequence of four calls in rings that are empty or not, each also with a
// ring that is loaded after each call.
func TestEverySequence(t *testing.T) {
	const calls, length = 11, 4
	sequences := 1
	for range length {
		sequences *= calls
	}
	for s := range sequences {
		p := newPair(t, 1+s%3)
		if s%2 == 0 {
			p.push(1, 2, api.Item{ID: 9, Cost: 5})
			p.push(0, 1, api.Item{ID: 9, Cost: 2})
		}
		q := p.again()
		rest := s
		for i := range length {
			p.do(rest%calls, 2+i)
			q.do(rest%calls, 2+i)
			q = q.again()
			rest /= calls
		}
		p.empty()
		q.empty()
	}
}

// weightOf gives a flow always the same weight, but for few pushes.
func weightOf(r *rand.Rand, number int) int {
	if r.IntN(20) == 0 {
		return r.IntN(19) - 1
	}
	return 1 + number*5%16
}

func TestAnyMixOfCalls(t *testing.T) {
	r := rand.New(rand.NewPCG(15, 1))
	for range 300 {
		p := newPair(t, 1+r.IntN(1<<r.IntN(7)))
		q := p.again()
		flows, ids := 1+r.IntN(10), 1+r.IntN(12)
		for range 200 {
			number, id := r.IntN(flows+1)-r.IntN(2), r.IntN(ids+1)
			call, weight, cost := r.IntN(9), weightOf(r, number), r.IntN(67)-1
			for _, x := range []pair{p, q} {
				switch call {
				case 0:
					x.pick()
				case 1, 2:
					x.take()
				case 3:
					x.drop(number, id)
				default:
					x.push(number, weight, api.Item{ID: id, Cost: cost})
				}
			}
			if r.IntN(5) == 0 {
				q = p.again()
			}
		}
		p.empty()
		q.empty()
	}
}

// Each call takes about as long in a long ring as in a short one; with calls that
// go through the ring this test would not end in time.
func TestLongRing(t *testing.T) {
	const n = 200_000
	r := flow.New(1)
	for i := range n {
		for id := 1; id <= 2; id++ {
			if e := r.Push(n-i, 1, api.Item{ID: id, Cost: 1}); e != api.OK {
				t.Fatalf("Push = %d", e)
			}
		}
	}
	for i := range n / 2 {
		number := n/4 + i + 1
		if !r.Drop(number, 2) || !r.Drop(number, 1) || r.Len(number) != 0 {
			t.Fatalf("Drop(%d) = false", number)
		}
	}
	for i := range n {
		number := n - i%(n/2)
		if i%(n/2) >= n/4 {
			number -= n / 2
		}
		want := api.Item{ID: 1 + i/(n/2), Cost: 1}
		if got, x, ok := r.Take(); got != number || x != want || !ok {
			t.Fatalf("Take = %d, %v, %t; want %d, %v", got, x, ok, number, want)
		}
	}
	expectEmpty(t, r)
}

// P15.3

func TestLenAndDeficit(t *testing.T) {
	r := flow.New(3)
	r.Push(1, 2, api.Item{ID: 1, Cost: 5})
	r.Push(1, 2, api.Item{ID: 2, Cost: 5})
	r.Push(0, 1, api.Item{ID: 1, Cost: 5})
	expect := func(n1, d1, n0, d0 int) {
		t.Helper()
		if r.Len(1) != n1 || r.Deficit(1) != d1 || r.Len(0) != n0 || r.Deficit(0) != d0 {
			t.Errorf("Rows = %v; want %d items and %d of flow 1, %d and %d of flow 0", r.Rows(), n1, d1, n0, d0)
		}
	}
	expect(2, 0, 1, 0)
	r.Pick()
	expect(2, 6, 1, 0)
	r.Take()
	expect(1, 1, 1, 0)
	r.Take()
	expect(0, 0, 1, 3)
	r.Take()
	expect(0, 0, 0, 0)
}

// Rows has the visited flow first.
func TestOrderOfRows(t *testing.T) {
	p := newPair(t, 1)
	for _, number := range []int{5, 1, greatest, 0} {
		p.push(number, 2, api.Item{ID: 1, Cost: 3})
		p.push(number, 2, api.Item{ID: 2, Cost: 1})
	}
	var got []int
	for range 8 {
		p.pick()
		got = append(got, p.r.Rows()[0].Flow)
		p.take()
	}
	if !slices.Equal(got, []int{5, 5, 1, 1, greatest, greatest, 0, 0}) {
		t.Errorf("first rows: %v", got)
	}
}

// The rows belong to the caller: neither does a change of them reach the ring,
// nor a change of the ring them.
func TestRowsAreTheCallers(t *testing.T) {
	p := filled(t, 3, 3)
	p.pick()
	rows, other := p.r.Rows(), p.r.Rows()
	for i := range rows {
		rows[i].Deficit++
		rows[i].Items[0] = api.Item{ID: 99, Cost: 1}
		_ = append(rows[i].Items[:1], api.Item{ID: 98, Cost: 1})
	}
	p.same()
	want := p.again()
	p.take()
	p.drop(2, 7)
	p.push(2, 2, item(50))
	p.empty()
	if !slices.EqualFunc(other, want.m.rows, equal) {
		t.Errorf("earlier Rows have become %v; want %v", other, want.m.rows)
	}
}

// copies returns rows that share nothing with l.
func copies(l []flow.Row) []flow.Row {
	var rows []flow.Row
	for _, row := range l {
		row.Items = slices.Clone(row.Items)
		rows = append(rows, row)
	}
	return rows
}

// numbered returns rows of flows 0, 1, .. with different weights, deficits and
// items.
func numbered(n int) []flow.Row {
	var rows []flow.Row
	for i := range n {
		rows = append(rows, flow.Row{Flow: i, Weight: 1 + i%16, Deficit: 7 * i % 65, Items: []api.Item{item(i + 1), item(i + 2)}})
	}
	return rows
}

// loaded returns a pair whose ring was loaded.
func loaded(t *testing.T, quantum int, rows []flow.Row, given bool) pair {
	t.Helper()
	r, ok := flow.Load(quantum, rows, given)
	if r == nil || !ok {
		t.Fatalf("Load(%d, %v, %t) = %v, %t", quantum, rows, given, r, ok)
	}
	p := pair{t, r, &model{quantum, copies(rows), given}}
	p.same()
	return p
}

func expectNoLoad(t *testing.T, quantum int, rows []flow.Row, given bool) {
	t.Helper()
	if r, ok := flow.Load(quantum, rows, given); r != nil || ok {
		t.Errorf("Load(%d, %v, %t) = %v, %t; want nil, false", quantum, rows, given, r, ok)
	}
}

func TestLoad(t *testing.T) {
	for quantum := 1; quantum <= 64; quantum++ {
		for n := range 6 {
			for _, given := range []bool{false, n > 0} {
				p := loaded(t, quantum, numbered(n), given)
				p.push(1, 2, item(20))
				p.drop(0, 1)
				p.take()
				p.push(9, 9, item(20))
				p.empty()
			}
		}
	}
	for _, given := range []bool{false, true} {
		rows := numbered(4)
		for i, number := range []int{greatest, 0, 1 << 32, 7} {
			rows[i].Flow = number
		}
		loaded(t, 5, rows, given).empty()
	}
}

// The visited flow gets its quantum once: by the call that led to the rows, or by
// the next one.
func TestLoadGiven(t *testing.T) {
	rows := []flow.Row{{Flow: 1, Weight: 2, Deficit: 3, Items: []api.Item{{ID: 1, Cost: 4}}}, {Flow: 2, Weight: 1, Items: []api.Item{{ID: 1, Cost: 2}}}}
	r, _ := flow.Load(2, rows, false)
	expectTaken(t, r, 1, 2)
	r, _ = flow.Load(2, rows, true)
	expectTaken(t, r, 2, 1)
}

func TestLoadWithoutFlows(t *testing.T) {
	for quantum := 1; quantum <= 64; quantum++ {
		loaded(t, quantum, nil, false)
		loaded(t, quantum, []flow.Row{}, false).push(1, 1, item(1))
		expectNoLoad(t, quantum, nil, true)
		expectNoLoad(t, quantum, []flow.Row{}, true)
	}
}

func TestLoadWithoutQuantum(t *testing.T) {
	for _, quantum := range quanta {
		for n := range 3 {
			expectNoLoad(t, quantum, numbered(n), false)
			expectNoLoad(t, quantum, numbered(n), true)
		}
	}
}

// eachPlace loads four rows, one of which is changed.
func eachPlace(t *testing.T, valid bool, change func(row *flow.Row)) {
	t.Helper()
	for i := range 4 {
		for _, given := range []bool{false, true} {
			rows := numbered(4)
			change(&rows[i])
			if valid {
				loaded(t, 3, rows, given)
			} else {
				expectNoLoad(t, 3, rows, given)
			}
		}
	}
}

func TestLoadNumbersAndWeights(t *testing.T) {
	for _, number := range []int{-1, -2, -1 << 32, least} {
		eachPlace(t, false, func(row *flow.Row) { row.Flow = number })
	}
	for _, weight := range []int{1, 2, 15, 16} {
		eachPlace(t, true, func(row *flow.Row) { row.Weight = weight })
	}
	for _, weight := range []int{0, -1, -16, 17, 1<<8 + 1, 1<<32 + 1, least, greatest} {
		eachPlace(t, false, func(row *flow.Row) { row.Weight = weight })
	}
}

func TestLoadOfFlowsTwice(t *testing.T) {
	for n := 2; n <= 5; n++ {
		for i := range n {
			for j := range i {
				rows := numbered(n)
				rows[i].Flow = rows[j].Flow
				expectNoLoad(t, 1, rows, false)
				rows[i].Weight = rows[j].Weight
				expectNoLoad(t, 1, rows, false)
				expectNoLoad(t, 1, rows, true)
				rows[i] = rows[j]
				expectNoLoad(t, 1, rows, true)
			}
		}
	}
}

func TestLoadDeficits(t *testing.T) {
	for _, deficit := range []int{0, 1, 63, 64} {
		eachPlace(t, true, func(row *flow.Row) { row.Deficit = deficit })
	}
	for _, deficit := range []int{-1, -64, least, 1<<32 + 1, greatest, 64 + 16*64, 64 + 16*64 + 1} {
		eachPlace(t, false, func(row *flow.Row) { row.Deficit = deficit })
	}
	for quantum := 1; quantum <= 64; quantum++ {
		for weight := 1; weight <= 16; weight++ {
			most := 64 + quantum*weight
			for _, deficit := range []int{64, 65, most - 1, most, most + 1} {
				for place := range 3 {
					rows := numbered(3)
					rows[place].Weight, rows[place].Deficit = weight, deficit
					for _, given := range []bool{false, true} {
						if deficit <= 64 || given && place == 0 && deficit <= most {
							loaded(t, quantum, rows, given)
						} else {
							expectNoLoad(t, quantum, rows, given)
						}
					}
				}
			}
		}
	}
}

func TestLoadItems(t *testing.T) {
	for _, items := range [][]api.Item{
		{{ID: 1, Cost: 1}}, {{ID: greatest, Cost: 64}}, {{ID: 3, Cost: 9}, {ID: 1, Cost: 64}, {ID: 2, Cost: 9}},
	} {
		eachPlace(t, true, func(row *flow.Row) { row.Items = items })
	}
	for _, items := range [][]api.Item{
		nil, {},
		{{ID: 0, Cost: 1}}, {{ID: -1, Cost: 1}}, {{ID: least, Cost: 1}},
		{{ID: 1, Cost: 0}}, {{ID: 1, Cost: -1}}, {{ID: 1, Cost: 65}}, {{ID: 1, Cost: greatest}},
		{{ID: 1, Cost: 1}, {}}, {{}, {ID: 1, Cost: 1}},
		{{ID: 1, Cost: 1}, {ID: 1, Cost: 1}}, {{ID: 1, Cost: 1}, {ID: 2, Cost: 1}, {ID: 1, Cost: 2}},
		{{ID: 1, Cost: 1}, {ID: 2, Cost: 1}, {ID: 3, Cost: 65}},
	} {
		eachPlace(t, false, func(row *flow.Row) { row.Items = items })
	}
}

// The ring has copies of the rows and of their items.
func TestLoadKeepsNoRows(t *testing.T) {
	rows := numbered(3)
	before := copies(rows)
	p := loaded(t, 2, rows, true)
	p.push(0, 1, item(30))
	p.drop(1, 2)
	p.take()
	if !slices.EqualFunc(rows, before, equal) {
		t.Errorf("the rows have become %v; want %v", rows, before)
	}
	for i := range rows {
		rows[i].Deficit = 60
		rows[i].Items[0] = api.Item{ID: 99, Cost: 2}
	}
	p.same()
	p.empty()
}

func TestNilRing(t *testing.T) {
	expectEmpty(t, nil)
}

func TestRingsAreIndependent(t *testing.T) {
	p, q := filled(t, 3, 2), filled(t, 3, 2)
	p.take()
	p.drop(2, 2)
	q.same()
	q.push(3, 3, item(40))
	p.same()
	again := p.again()
	p.empty()
	again.same()
}

// P15.4

// taken tells how much of each flow's cost has been taken since the start.
type taken map[int]int

// record takes items while in the flows 0, 1, .., whose weights and greatest
// costs are given, there is always one more; other flows come and go. It returns
// what has been taken before each Take and after the last one.
func record(r *rand.Rand, quantum int, weights, costs []int) []taken {
	ring, id := flow.New(quantum), 0
	push := func(number, weight, most int) {
		id++
		ring.Push(number, weight, api.Item{ID: id, Cost: 1 + r.IntN(most)})
	}
	sum := taken{}
	sums := []taken{{}}
	for range 120 {
		for i := range weights {
			for ring.Len(i) < 2 || r.IntN(3) == 0 {
				push(i, weights[i], costs[i])
			}
		}
		guest := len(weights) + r.IntN(3)
		switch r.IntN(4) {
		case 0:
			push(guest, 1+guest%16, 64)
		case 1:
			ring.Drop(guest, id-r.IntN(10))
		case 2:
			ring.Pick()
		}
		number, x, _ := ring.Take()
		sum[number] += x.Cost
		sums = append(sums, maps.Clone(sum))
	}
	return sums
}

// expectFair fails the test if in any interval two flows have been taken too
// differently.
func expectFair(t *testing.T, sums []taken, quantum int, weights, costs []int) {
	t.Helper()
	for to, after := range sums {
		for from, before := range sums[:to] {
			for i, v := range weights {
				for j, w := range weights[:i] {
					x, y := after[i]-before[i], after[j]-before[j]
					// x / v and y / w, times v and w.
					if d := x*w - y*v; max(d, -d) > quantum*v*w+costs[i]*w+costs[j]*v {
						t.Fatalf("quantum %d: from %d to %d, %d of weight %d and cost %d, but %d of weight %d and cost %d",
							quantum, from, to, x, v, costs[i], y, w, costs[j])
					}
				}
			}
		}
	}
}

func TestFairness(t *testing.T) {
	r := rand.New(rand.NewPCG(15, 4))
	for range 150 {
		quantum := 1 + r.IntN(1<<r.IntN(7))
		var weights, costs []int
		for range 2 + r.IntN(3) {
			weights = append(weights, 1+r.IntN(16))
			costs = append(costs, 1+r.IntN(1<<r.IntN(7)))
		}
		expectFair(t, record(r, quantum, weights, costs), quantum, weights, costs)
	}
}

// Over a long time, flows share by their weights, whatever their costs are.
func TestSharesFollowWeights(t *testing.T) {
	ring, id := flow.New(4), 0
	weights, costs, sums := []int{1, 3, 16}, []int{1, 64, 5}, []int{0, 0, 0}
	for range 20_000 {
		for i := range weights {
			id++
			ring.Push(i, weights[i], api.Item{ID: id, Cost: costs[i]})
		}
		number, x, _ := ring.Take()
		sums[number] += x.Cost
	}
	for i, w := range weights {
		if part := sums[i] / w; part < sums[0]-100 || part > sums[0]+100 {
			t.Errorf("taken %v with the weights %v", sums, weights)
		}
	}
}

// P15.5

func TestPickAgain(t *testing.T) {
	p := filled(t, 6, 5)
	for len(p.m.rows) > 0 {
		number, x, ok := p.r.Pick()
		for range 5 {
			if n, y, again := p.r.Pick(); n != number || y != x || again != ok {
				t.Fatalf("Pick = %d, %v, %t; then %d, %v, %t", number, x, ok, n, y, again)
			}
		}
		p.take()
	}
}

// P15.6

// What Rows and Given tell can be loaded at any time, and the ring goes on in the
// same way, with the same calls.
func TestLoadedRingGoesOn(t *testing.T) {
	r := rand.New(rand.NewPCG(15, 6))
	for range 100 {
		p := newPair(t, 1+r.IntN(64))
		for i := range 60 {
			number := r.IntN(8)
			p.push(number, 1+number*2, api.Item{ID: 1 + i, Cost: 1 + r.IntN(64)})
			switch r.IntN(3) {
			case 0:
				p.pick()
			case 1:
				p.take()
			}
		}
		for len(p.m.rows) > 0 {
			q := p.again()
			for range 5 {
				q.take()
			}
			q.pick()
			p.take()
		}
	}
}

// What a ring does depends on its calls alone, not on the order of a map.
func TestSameAnswersAgain(t *testing.T) {
	run := func() []int {
		p := filled(t, 9, 9)
		var l []int
		for range 81 {
			number, x, _ := p.r.Take()
			l = append(l, number, x.ID)
		}
		return l
	}
	first := run()
	for range 10 {
		if !slices.Equal(run(), first) {
			t.Fatal("the same calls have had other answers")
		}
	}
}
