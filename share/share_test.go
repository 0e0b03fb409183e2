package share_test

import (
	"math"
	"math/rand/v2"
	"runtime"
	"slices"
	"testing"

	"billet/api"
	"billet/flow"
	"billet/share"
)

const (
	greatest = math.MaxInt
	least    = math.MinInt
)

// numbers are those of tenants and invocations, and ones that none has.
var numbers = []int{least, -1 << 32, -1, 0, 1, 2, 3, 1 << 32, 1<<32 + 1, greatest}

// weights are ordinary ones, the least and the greatest one, and invalid ones,
// some of which would be valid as numbers of fewer bits.
var weights = []int{least, -16, -1, 0, 1, 2, 15, 16, 17, 1<<8 + 1, 1<<32 + 1, greatest}

// quanta are invalid ones.
var quanta = []int{least, least + 1, -64, -1, 0, 65, 66, 1<<8 + 1, 1<<32 + 1, greatest}

// entry returns an entry whose weights follow from its numbers, and whose cost
// differs from that of the next ID.
func entry(tenant, inv, id int) api.Entry {
	return api.Entry{Tenant: tenant, TenantWeight: 1 + tenant%16, Inv: inv, InvWeight: 1 + inv*3%16, ID: id, Cost: 1 + id%7*10}
}

// tenant is one of the model, in which a ring waits.
type tenant struct {
	number, weight, deficit int
	invs                    *flow.Ring
}

// next returns the next entry of a tenant.
func (n *tenant) next() api.Entry {
	inv, x, _ := n.invs.Pick()
	weight := n.invs.Rows()[0].Weight
	return api.Entry{Tenant: n.number, TenantWeight: n.weight, Inv: inv, InvWeight: weight, ID: x.ID, Cost: x.Cost}
}

// model is a share as the chapter has it, the visited tenant first.
type model struct {
	quantum int
	tenants []tenant
	given   bool
}

func (m *model) place(number int) int {
	return slices.IndexFunc(m.tenants, func(n tenant) bool { return n.number == number })
}

func (m *model) push(x api.Entry) api.Errno {
	i := m.place(x.Tenant)
	if x.Tenant < 0 || x.TenantWeight < 1 || x.TenantWeight > 16 || i >= 0 && m.tenants[i].weight != x.TenantWeight {
		return api.ErrArg
	}
	n := tenant{x.Tenant, x.TenantWeight, 0, flow.New(m.quantum)}
	if i >= 0 {
		n = m.tenants[i]
	}
	e := n.invs.Push(x.Inv, x.InvWeight, api.Item{ID: x.ID, Cost: x.Cost})
	if e == api.OK && i < 0 {
		m.tenants = append(m.tenants, n)
	}
	return e
}

func (m *model) pick() (api.Entry, bool) {
	if len(m.tenants) == 0 {
		return api.Entry{}, false
	}
	for {
		first := &m.tenants[0]
		if !m.given {
			first.deficit += m.quantum * first.weight
			m.given = true
		}
		if x := first.next(); x.Cost <= first.deficit {
			return x, true
		}
		m.tenants = append(m.tenants[1:], *first)
		m.given = false
	}
}

func (m *model) take() (api.Entry, bool) {
	x, some := m.pick()
	if some {
		m.tenants[0].invs.Take()
		m.tenants[0].deficit -= x.Cost
		m.settle(0)
	}
	return x, some
}

func (m *model) drop(number, inv, id int) bool {
	i := m.place(number)
	if i < 0 || !m.tenants[i].invs.Drop(inv, id) {
		return false
	}
	m.settle(i)
	return true
}

// settle removes a tenant in which nothing waits any more.
func (m *model) settle(i int) {
	if len(m.tenants[i].invs.Rows()) == 0 {
		m.tenants = slices.Delete(m.tenants, i, i+1)
		m.given = m.given && i > 0
	}
}

func (m *model) rows() []share.Row {
	var rows []share.Row
	for _, n := range m.tenants {
		rows = append(rows, share.Row{Tenant: n.number, Weight: n.weight, Deficit: n.deficit, Invs: n.invs.Rows(), Given: n.invs.Given()})
	}
	return rows
}

// pair is a share with its model; each call goes to both, and their answers and
// what is in them afterwards must be the same.
type pair struct {
	t *testing.T
	s *share.Share
	m *model
}

func newPair(t *testing.T, quantum int) pair {
	t.Helper()
	s := share.New(quantum)
	if s == nil {
		t.Fatalf("New(%d) = nil", quantum)
	}
	p := pair{t, s, &model{quantum: quantum}}
	p.same()
	return p
}

// filled returns a pair with the quantum 3 and as many tenants, with the numbers
// 1, 2, .., each with as many invocations, in each of which wait two items.
func filled(t *testing.T, tenants, invs int) pair {
	t.Helper()
	p := newPair(t, 3)
	for id := 1; id <= 2; id++ {
		for number := 1; number <= tenants; number++ {
			for inv := 1; inv <= invs; inv++ {
				p.push(entry(number, inv, number+inv+5*id))
			}
		}
	}
	return p
}

func equal(a, b share.Row) bool {
	return a.Tenant == b.Tenant && a.Weight == b.Weight && a.Deficit == b.Deficit && a.Given == b.Given &&
		slices.EqualFunc(a.Invs, b.Invs, equalInvs)
}

func equalInvs(a, b flow.Row) bool {
	return a.Flow == b.Flow && a.Weight == b.Weight && a.Deficit == b.Deficit && slices.Equal(a.Items, b.Items)
}

func (p pair) same() {
	p.t.Helper()
	want := p.m.rows()
	if rows, given := p.s.Rows(), p.s.Given(); !slices.EqualFunc(rows, want, equal) || given != p.m.given {
		p.t.Fatalf("Rows = %v, Given = %t; want %v, %t", rows, given, want, p.m.given)
	}
	all := 0
	for _, row := range want {
		for _, inv := range row.Invs {
			all += len(inv.Items)
			if n := p.s.Waits(row.Tenant, inv.Flow); n != len(inv.Items) {
				p.t.Fatalf("Waits(%d, %d) = %d of %v", row.Tenant, inv.Flow, n, want)
			}
		}
	}
	if n := p.s.Len(); n != all {
		p.t.Fatalf("Len = %d of %v", n, want)
	}
}

func (p pair) push(x api.Entry) {
	p.t.Helper()
	want := p.m.push(x)
	if e := p.s.Push(x); e != want {
		p.t.Fatalf("Push(%v) = %d; want %d", x, e, want)
	}
	p.same()
}

func (p pair) pick() {
	p.t.Helper()
	want, some := p.m.pick()
	// What Pick returns does not change by Pick itself.
	for range 2 {
		if x, ok := p.s.Pick(); x != want || ok != some {
			p.t.Fatalf("Pick = %v, %t; want %v, %t", x, ok, want, some)
		}
		p.same()
	}
}

func (p pair) take() {
	p.t.Helper()
	want, some := p.m.take()
	if x, ok := p.s.Take(); x != want || ok != some {
		p.t.Fatalf("Take = %v, %t; want %v, %t", x, ok, want, some)
	}
	p.same()
}

func (p pair) drop(tenant, inv, id int) {
	p.t.Helper()
	want := p.m.drop(tenant, inv, id)
	if there := p.s.Drop(tenant, inv, id); there != want {
		p.t.Fatalf("Drop(%d, %d, %d) = %t; want %t", tenant, inv, id, there, want)
	}
	p.same()
}

// empty takes everything.
func (p pair) empty() {
	p.t.Helper()
	for len(p.m.tenants) > 0 {
		p.take()
	}
	expectEmpty(p.t, p.s)
}

// again returns a pair of the share that Load returns for p's.
func (p pair) again() pair {
	p.t.Helper()
	return loaded(p.t, p.m.quantum, p.s.Rows(), p.s.Given())
}

// expectEmpty fails the test unless a share answers as one without tenants does.
func expectEmpty(t *testing.T, s *share.Share) {
	t.Helper()
	expectNothing := func() {
		t.Helper()
		if rows, given, n := s.Rows(), s.Given(), s.Len(); len(rows) != 0 || given || n != 0 {
			t.Errorf("Rows = %v, Given = %t, Len = %d", rows, given, n)
		}
	}
	expectNothing()
	for _, call := range []func() (api.Entry, bool){s.Pick, s.Take} {
		if x, ok := call(); x != (api.Entry{}) || ok {
			t.Errorf("Pick or Take = %v, %t", x, ok)
		}
	}
	for _, number := range numbers {
		for _, inv := range numbers {
			if n := s.Waits(number, inv); n != 0 {
				t.Errorf("Waits(%d, %d) = %d", number, inv, n)
			}
			if s.Drop(number, inv, 1) || s.Drop(number, inv, 0) {
				t.Errorf("Drop(%d, %d) = true", number, inv)
			}
		}
	}
	expectNothing()
}

// expectTaken fails the test unless Take returns entries with these IDs.
func expectTaken(t *testing.T, s *share.Share, want ...int) {
	t.Helper()
	var got []int
	for range want {
		x, ok := s.Take()
		if !ok {
			t.Fatalf("nothing after %v", got)
		}
		got = append(got, x.ID)
	}
	if !slices.Equal(got, want) {
		t.Fatalf("Take returns %v; want %v", got, want)
	}
}

// P16.1

func TestNew(t *testing.T) {
	for quantum := 1; quantum <= 64; quantum++ {
		expectEmpty(t, share.New(quantum))
		p := newPair(t, quantum)
		p.push(api.Entry{Tenant: 1, TenantWeight: 16, Inv: 1, InvWeight: 1, ID: 1, Cost: 64})
		p.push(api.Entry{Tenant: 1, TenantWeight: 16, Inv: 2, InvWeight: 16, ID: 1, Cost: 64})
		p.push(api.Entry{Tenant: 2, TenantWeight: 1, Inv: 1, InvWeight: 1, ID: 1, Cost: 64})
		p.pick()
		p.empty()
	}
}

func TestNoQuantum(t *testing.T) {
	for _, quantum := range quanta {
		if share.New(quantum) != nil {
			t.Errorf("New(%d) is a share", quantum)
		}
	}
}

// items are of entries that are valid or not.
var items = []api.Item{{ID: 1, Cost: 1}, {ID: greatest, Cost: 64}, {}, {ID: -1, Cost: 5}, {ID: 1, Cost: 65}, {ID: 1, Cost: -1}}

// Each tenant with each weight, into shares without and with other tenants, and
// into tenants that are there with another weight or with the same one.
func TestPushTenants(t *testing.T) {
	for _, number := range numbers {
		for _, weight := range weights {
			for _, x := range items {
				p := newPair(t, 4)
				y := api.Entry{Tenant: number, TenantWeight: weight, Inv: 3, InvWeight: 5, ID: x.ID, Cost: x.Cost}
				p.push(y)
				p.push(y)
				p.push(entry(5, 3, 1))
				p.push(api.Entry{Tenant: number, TenantWeight: 3, Inv: 3, InvWeight: 5, ID: 2, Cost: 9})
				p.push(y)
				p.pick()
				p.push(api.Entry{Tenant: number, TenantWeight: weight, Inv: 4, InvWeight: 1, ID: 4, Cost: 9})
				p.empty()
			}
		}
	}
}

// The same with each invocation of one tenant, into which others are pushed.
func TestPushInvocations(t *testing.T) {
	for _, number := range numbers {
		for _, weight := range weights {
			for _, x := range items {
				p := newPair(t, 4)
				y := api.Entry{Tenant: 2, TenantWeight: 5, Inv: number, InvWeight: weight, ID: x.ID, Cost: x.Cost}
				p.push(y)
				p.push(y)
				p.push(api.Entry{Tenant: 2, TenantWeight: 5, Inv: 5, InvWeight: 3, ID: 1, Cost: 8})
				p.push(api.Entry{Tenant: 2, TenantWeight: 5, Inv: number, InvWeight: 3, ID: 2, Cost: 9})
				p.push(y)
				p.pick()
				p.push(entry(2, number, 4))
				p.empty()
			}
		}
	}
}

func TestPushErrors(t *testing.T) {
	s := share.New(1)
	for _, step := range []struct {
		tenant, weight, inv, invWeight, id, cost int
		want                                     api.Errno
	}{
		{-1, 1, 1, 1, 1, 1, 1}, {least, 1, 1, 1, 1, 1, 1},
		{0, 0, 1, 1, 1, 1, 1}, {0, -1, 1, 1, 1, 1, 1}, {0, 17, 1, 1, 1, 1, 1}, {0, greatest, 1, 1, 1, 1, 1},
		{0, 1, -1, 1, 1, 1, 1}, {0, 1, least, 1, 1, 1, 1},
		{0, 1, 1, 0, 1, 1, 1}, {0, 1, 1, -1, 1, 1, 1}, {0, 1, 1, 17, 1, 1, 1}, {0, 1, 1, least, 1, 1, 1},
		{0, 1, 1, 1, 0, 1, 1}, {0, 1, 1, 1, 1, 0, 1}, {0, 1, 1, 1, 1, 65, 1}, {0, 1, 1, 1, -1, -1, 1},
		{0, 1, 1, 2, 1, 1, 0}, {0, 1, 0, 16, 1, 64, 0}, {greatest, 16, greatest, 16, greatest, 1, 0}, {greatest, 16, 1, 3, 1, 1, 0},
		// Another weight of a tenant or an invocation is invalid, for an item that is
		// there too.
		{0, 2, 1, 2, 5, 1, 1}, {0, 2, 1, 2, 1, 1, 1}, {greatest, 15, 1, 3, 1, 1, 1}, {greatest, 17, 1, 3, 5, 1, 1},
		{0, 1, 1, 1, 5, 1, 1}, {0, 1, 1, 1, 1, 1, 1}, {greatest, 16, 1, 2, 1, 1, 1}, {greatest, 16, 2, 17, 1, 1, 1},
		{0, 1, 1, 2, 1, 1, 8}, {0, 1, 0, 16, 1, 5, 8}, {greatest, 16, 1, 3, 1, 64, 8}, {greatest, 16, greatest, 16, greatest, 1, 8},
		// An invalid item comes before one that is there.
		{0, 1, 1, 2, 1, 0, 1}, {0, 1, 1, 2, 1, 65, 1},
		{0, 1, 1, 2, 2, 1, 0}, {0, 1, 2, 1, 1, 1, 0},
	} {
		x := api.Entry{Tenant: step.tenant, TenantWeight: step.weight, Inv: step.inv, InvWeight: step.invWeight, ID: step.id, Cost: step.cost}
		if e := s.Push(x); e != step.want {
			t.Errorf("Push(%v) = %d; want %d", x, e, step.want)
		}
	}
	if s.Len() != 6 || s.Waits(0, 1) != 2 || s.Waits(0, 0) != 1 || s.Waits(0, 2) != 1 || s.Waits(greatest, 1) != 1 || len(s.Rows()) != 2 {
		t.Errorf("Len = %d, Rows = %v", s.Len(), s.Rows())
	}
}

// What is refused leaves neither a tenant nor an invocation behind, whose number
// would then have a weight.
func TestPushThatFailsAppendsNothing(t *testing.T) {
	refused := []api.Entry{
		{Inv: -1, InvWeight: 1, ID: 1, Cost: 1}, {Inv: 4, ID: 1, Cost: 1}, {Inv: 4, InvWeight: 17, ID: 1, Cost: 1},
		{Inv: 4, InvWeight: 1, Cost: 1}, {Inv: 4, InvWeight: 1, ID: 1}, {Inv: 4, InvWeight: 1, ID: 1, Cost: 65},
	}
	p := newPair(t, 1)
	for _, x := range refused {
		x.Tenant, x.TenantWeight = 7, 2
		p.push(x)
		expectEmpty(t, p.s)
	}
	p.push(api.Entry{Tenant: 7, TenantWeight: 3, Inv: 5, InvWeight: 1, ID: 1, Cost: 1})
	for _, x := range refused {
		x.Tenant, x.TenantWeight = 7, 3
		p.push(x)
		if n := p.s.Len(); n != 1 || p.s.Waits(7, x.Inv) != 0 {
			t.Errorf("after Push(%v) Len = %d", x, n)
		}
	}
	p.push(api.Entry{Tenant: 7, TenantWeight: 3, Inv: 4, InvWeight: 9, ID: 1, Cost: 1})
	p.empty()
}

func TestPushToNilShare(t *testing.T) {
	var s *share.Share
	for _, number := range numbers {
		for _, weight := range weights {
			for _, x := range []api.Entry{{}, {Inv: 1, InvWeight: 1, ID: 1, Cost: 1}} {
				x.Tenant, x.TenantWeight = number, weight
				if e := s.Push(x); e != api.ErrState {
					t.Errorf("Push(%v) = %d; want %d", x, e, api.ErrState)
				}
			}
		}
	}
}

// Entries differ by neither of them, and lose both.
func TestNeedAndClassAreIgnored(t *testing.T) {
	s := share.New(64)
	id := 0
	for _, need := range []string{"", "os=linux", "=", "\xff", "not a need"} {
		for _, class := range []int{least, -1, 0, 1, 4, greatest} {
			id++
			x, y := entry(1, 2, id), entry(1, 2, id)
			y.Need, y.Class = need, class
			if e := s.Push(y); e != api.OK {
				t.Fatalf("Push(%v) = %d", y, e)
			}
			if e := s.Push(x); e != api.ErrThere {
				t.Fatalf("Push(%v) = %d; want %d", x, e, api.ErrThere)
			}
		}
	}
	for want := 1; want <= id; want++ {
		x, _ := s.Pick()
		y, _ := s.Take()
		if x != entry(1, 2, want) || y != x {
			t.Fatalf("Pick = %v, Take = %v; want %v", x, y, entry(1, 2, want))
		}
	}
}

// A tenant that comes back has another place, the deficit 0, and any weight.
func TestTenantComesBack(t *testing.T) {
	p := newPair(t, 8)
	p.push(api.Entry{Tenant: 1, TenantWeight: 2, Inv: 1, InvWeight: 1, ID: 1, Cost: 1})
	p.push(api.Entry{Tenant: 2, TenantWeight: 2, Inv: 1, InvWeight: 1, ID: 1, Cost: 1})
	p.take()
	if p.s.Given() || p.s.Len() != 1 || p.s.Waits(1, 1) != 0 {
		t.Errorf("Rows = %v, Given = %t", p.s.Rows(), p.s.Given())
	}
	p.push(api.Entry{Tenant: 1, TenantWeight: 3, Inv: 1, InvWeight: 4, ID: 1, Cost: 2})
	if rows := p.s.Rows(); len(rows) != 2 || rows[1].Tenant != 1 || rows[1].Weight != 3 || rows[1].Deficit != 0 || rows[1].Given {
		t.Errorf("Rows = %v", rows)
	}
	p.drop(1, 1, 1)
	p.push(api.Entry{Tenant: 1, TenantWeight: 16, Inv: 1, InvWeight: 5, ID: 1, Cost: 2})
	p.empty()
}

// So has an invocation, after Take and after Drop.
func TestInvocationComesBack(t *testing.T) {
	p := newPair(t, 8)
	push := func(inv, weight int) {
		t.Helper()
		p.push(api.Entry{Tenant: 1, TenantWeight: 2, Inv: inv, InvWeight: weight, ID: 1, Cost: 3})
	}
	push(1, 2)
	push(2, 2)
	p.take()
	push(1, 3)
	p.drop(1, 1, 1)
	push(1, 4)
	if rows := p.s.Rows(); len(rows) != 1 || len(rows[0].Invs) != 2 || rows[0].Invs[1].Flow != 1 || rows[0].Invs[1].Weight != 4 {
		t.Errorf("Rows = %v", rows)
	}
	p.take()
	if x, _ := p.s.Pick(); x.Inv != 1 || x.InvWeight != 4 {
		t.Errorf("Pick = %v", x)
	}
	p.empty()
}

// Numbers of invocations have to differ within a tenant only, and IDs within an
// invocation.
func TestSameNumbersInTwoTenants(t *testing.T) {
	p := newPair(t, 1)
	for number := 1; number <= 2; number++ {
		for inv := 1; inv <= 2; inv++ {
			for id := 1; id <= 3; id++ {
				p.push(api.Entry{Tenant: number, TenantWeight: 1, Inv: inv, InvWeight: number + inv, ID: id, Cost: number * inv})
			}
		}
	}
	p.drop(1, 2, 2)
	p.drop(1, 2, 2)
	p.drop(2, 2, 2)
	p.drop(2, 1, 2)
	p.empty()
}

// P16.2

func TestExample(t *testing.T) {
	for _, cost := range []int{1, 2, 7, 64} {
		s := share.New(cost)
		for id := 1; id <= 4; id++ {
			s.Push(api.Entry{Tenant: 0, TenantWeight: 1, Inv: 1, InvWeight: 1, ID: id, Cost: cost})
			s.Push(api.Entry{Tenant: 0, TenantWeight: 1, Inv: 2, InvWeight: 1, ID: 10 + id, Cost: cost})
			s.Push(api.Entry{Tenant: 1, TenantWeight: 1, Inv: 3, InvWeight: 1, ID: 20 + id, Cost: cost})
		}
		expectTaken(t, s, 1, 21, 11, 22, 2, 23, 12, 24, 3, 13, 4, 14)
		expectEmpty(t, s)
	}
}

// A tenant's part does not hang on the weights of its invocations, but each
// invocation's part of it does.
func TestWeightsOfBothLevels(t *testing.T) {
	s := share.New(1)
	for id := 1; id <= 6; id++ {
		s.Push(api.Entry{Tenant: 0, TenantWeight: 2, Inv: 1, InvWeight: 1, ID: id, Cost: 1})
		s.Push(api.Entry{Tenant: 0, TenantWeight: 2, Inv: 2, InvWeight: 3, ID: 10 + id, Cost: 1})
		s.Push(api.Entry{Tenant: 1, TenantWeight: 1, Inv: 1, InvWeight: 16, ID: 20 + id, Cost: 1})
	}
	expectTaken(t, s, 1, 11, 21, 12, 13, 22, 2, 14, 23, 15, 16, 24, 3, 4, 25, 5, 6, 26)
	expectEmpty(t, s)
}

func TestPickTellsWeights(t *testing.T) {
	p := newPair(t, 3)
	want := []api.Entry{
		{Tenant: 9, TenantWeight: 16, Inv: 8, InvWeight: 15, ID: 7, Cost: 40},
		{Tenant: 0, TenantWeight: 14, Inv: 0, InvWeight: 13, ID: 1, Cost: 41},
		{Tenant: greatest, TenantWeight: 13, Inv: greatest, InvWeight: 1, ID: greatest, Cost: 39},
	}
	for _, x := range want {
		p.push(x)
	}
	for _, x := range want {
		if y, ok := p.s.Pick(); y != x || !ok {
			t.Errorf("Pick = %v, %t; want %v", y, ok, x)
		}
		if y, ok := p.s.Take(); y != x || !ok {
			t.Errorf("Take = %v, %t; want %v", y, ok, x)
		}
	}
	expectEmpty(t, p.s)
}

// The ring of a tenant advances in a visit, also when the tenant's deficit does
// not cover the next item, and not by Take of an item itself.
func TestRingAdvancesWhenVisited(t *testing.T) {
	s := share.New(1)
	push := func(tenant, inv, cost int) {
		s.Push(api.Entry{Tenant: tenant, TenantWeight: 1, Inv: inv, InvWeight: 1, ID: 1, Cost: cost})
		s.Push(api.Entry{Tenant: tenant, TenantWeight: 1, Inv: inv, InvWeight: 1, ID: 2, Cost: cost})
	}
	for tenant := 1; tenant <= 3; tenant++ {
		push(tenant, 1, 5)
		push(tenant, 2, 2)
	}
	push(4, 1, 1)
	push(4, 2, 1)
	expect := func(tenants, invs []int, deficits [][]int, given []bool) {
		t.Helper()
		for i, row := range s.Rows() {
			if row.Tenant != tenants[i] || row.Invs[0].Flow != invs[i] || row.Invs[0].Deficit != deficits[i][0] || row.Invs[1].Deficit != deficits[i][1] || row.Given != given[i] {
				t.Errorf("row %d is %v; want the tenant %d with the deficits %v from %d on, %t", i, row, tenants[i], deficits[i], invs[i], given[i])
			}
		}
	}
	expect([]int{1, 2, 3, 4}, []int{1, 1, 1, 1}, [][]int{{0, 0}, {0, 0}, {0, 0}, {0, 0}}, []bool{false, false, false, false})
	// All tenants are visited. The next item of each of the first three is one of
	// invocation 2, which costs more than the 1 that the tenant has been given.
	s.Pick()
	expect([]int{4, 1, 2, 3}, []int{1, 2, 2, 2}, [][]int{{1, 0}, {2, 2}, {2, 2}, {2, 2}}, []bool{true, true, true, true})
	s.Take()
	expect([]int{4, 1, 2, 3}, []int{1, 2, 2, 2}, [][]int{{0, 0}, {2, 2}, {2, 2}, {2, 2}}, []bool{true, true, true, true})
	// Tenant 4 is visited still, so its ring advances; tenant 1 then has enough.
	s.Pick()
	expect([]int{1, 2, 3, 4}, []int{2, 2, 2, 2}, [][]int{{2, 2}, {2, 2}, {2, 2}, {1, 0}}, []bool{true, true, true, true})
	s.Take()
	expect([]int{1, 2, 3, 4}, []int{2, 2, 2, 2}, [][]int{{0, 2}, {2, 2}, {2, 2}, {1, 0}}, []bool{true, true, true, true})
}

// A tenant and its invocation have deficits of their own: the ring may be ahead
// of the tenant, by what the invocation was given when the tenant was visited.
func TestDeficits(t *testing.T) {
	s := share.New(10)
	for id := 1; id <= 5; id++ {
		s.Push(api.Entry{Tenant: 1, TenantWeight: 1, Inv: 6, InvWeight: 1, ID: id, Cost: 4})
	}
	s.Push(api.Entry{Tenant: 2, TenantWeight: 1, Inv: 6, InvWeight: 1, ID: 1, Cost: 4})
	for i, want := range []struct {
		tenant   int
		given    bool
		deficits [][2]int
	}{
		{1, true, [][2]int{{6, 6}, {0, 0}}}, {1, true, [][2]int{{2, 2}, {0, 0}}}, {2, false, [][2]int{{2, 12}}},
		{1, true, [][2]int{{8, 8}}}, {1, true, [][2]int{{4, 4}}}, {1, false, nil},
	} {
		x, _ := s.Take()
		var deficits [][2]int
		for _, row := range s.Rows() {
			deficits = append(deficits, [2]int{row.Deficit, row.Invs[0].Deficit})
		}
		if x.Tenant != want.tenant || s.Given() != want.given || !slices.Equal(deficits, want.deficits) {
			t.Fatalf("Take %d = %v, Given = %t, deficits %v; want %v", i, x, s.Given(), deficits, want)
		}
	}
	expectEmpty(t, s)
}

// Tenants of one invocation each share as flows do, and so do the invocations of
// one tenant.
func TestOneLevel(t *testing.T) {
	r := rand.New(rand.NewPCG(16, 2))
	for range 100 {
		quantum := 1 + r.IntN(64)
		ring, tenants, invs := flow.New(quantum), share.New(quantum), share.New(quantum)
		for id := 1; id <= 100; id++ {
			x := api.Item{ID: id, Cost: 1 + r.IntN(64)}
			number := r.IntN(9)
			ring.Push(number, 1+number, x)
			tenants.Push(api.Entry{Tenant: number, TenantWeight: 1 + number, Inv: 3, InvWeight: 5, ID: id, Cost: x.Cost})
			invs.Push(api.Entry{Tenant: 3, TenantWeight: 5, Inv: number, InvWeight: 1 + number, ID: id, Cost: x.Cost})
			if r.IntN(2) == 0 {
				continue
			}
			number, x, some := ring.Take()
			y, ok := tenants.Take()
			z, fine := invs.Take()
			if y.Tenant != number || y.ID != x.ID || ok != some || z.Inv != number || z.ID != x.ID || fine != some {
				t.Fatalf("Take = %v and %v; a ring's = %d, %v", y, z, number, x)
			}
		}
	}
}

// The cost may be all of the deficit, but not one more.
func TestDeficitCoversTheCost(t *testing.T) {
	for cost := 1; cost <= 64; cost++ {
		p := newPair(t, 5)
		p.push(api.Entry{Tenant: 1, TenantWeight: 4, Inv: 1, InvWeight: 16, ID: 1, Cost: cost})
		p.push(api.Entry{Tenant: 2, TenantWeight: 4, Inv: 1, InvWeight: 16, ID: 1, Cost: 20})
		want := 1
		if cost > 20 {
			want = 2
		}
		if x, _ := p.s.Pick(); x.Tenant != want {
			t.Errorf("Pick = %v; want one of tenant %d", x, want)
		}
		p.pick()
		p.empty()
	}
}

// Pick moves tenants to the end, and so does Take, in the same way.
func TestPickBeforeTake(t *testing.T) {
	p, q := filled(t, 4, 3), filled(t, 4, 3)
	for len(p.m.tenants) > 0 {
		p.pick()
		p.take()
		q.take()
		if !slices.EqualFunc(p.s.Rows(), q.s.Rows(), equal) || p.s.Given() != q.s.Given() {
			t.Fatalf("Rows = %v after Pick and Take, and %v after Take", p.s.Rows(), q.s.Rows())
		}
	}
}

// Each invocation of each tenant is dropped, item by item, after any number of
// items were taken and with the visited tenant given its quantum or not.
func TestDropFromEachPlace(t *testing.T) {
	for tenants := range 4 {
		for number := range tenants + 2 {
			for inv := range 4 {
				for taken := range 4 * tenants {
					for _, picked := range []bool{false, true} {
						p := filled(t, tenants, 2)
						for range taken {
							p.take()
						}
						if picked {
							p.pick()
						}
						p.drop(number, inv, number+inv+10)
						p.drop(number, inv, number+inv+5)
						p.drop(number, inv, number+inv+5)
						p.drop(number, 3-inv, number+3-inv+5)
						p.drop(number, 3-inv, number+3-inv+10)
						p.pick()
						p.push(entry(number, inv, 3))
						p.empty()
					}
				}
			}
		}
	}
}

// visiting returns a share whose first one of three tenants, of two invocations
// with one item each, is visited and has been given its quantum.
func visiting(t *testing.T) *share.Share {
	t.Helper()
	s := share.New(8)
	for number := 1; number <= 3; number++ {
		for inv := 1; inv <= 2; inv++ {
			s.Push(api.Entry{Tenant: number, TenantWeight: 1, Inv: inv, InvWeight: 1, ID: 1, Cost: 1})
		}
	}
	if x, _ := s.Pick(); x.Tenant != 1 || x.Inv != 1 || !s.Given() {
		t.Fatalf("Pick = %v, Given = %t", x, s.Given())
	}
	return s
}

// Only what the visited tenant has been given goes with the tenant that is
// dropped.
func TestDropOfTheVisitedTenant(t *testing.T) {
	for number := 1; number <= 3; number++ {
		s := visiting(t)
		if !s.Drop(number, 1, 1) || s.Drop(number, 1, 1) || !s.Given() || len(s.Rows()) != 3 || s.Len() != 5 {
			t.Errorf("without one of %d: Rows = %v, Given = %t", number, s.Rows(), s.Given())
		}
		if !s.Drop(number, 2, 1) || s.Drop(number, 2, 1) || s.Given() != (number != 1) || len(s.Rows()) != 2 || s.Len() != 4 {
			t.Errorf("without %d: Rows = %v, Given = %t", number, s.Rows(), s.Given())
		}
		first := s.Rows()[0]
		if number == 1 && (first.Tenant != 2 || first.Deficit != 0) || number != 1 && (first.Tenant != 1 || first.Deficit != 8) {
			t.Errorf("without %d: Rows = %v", number, s.Rows())
		}
		// What is not there is not dropped, and nothing changes.
		s = visiting(t)
		for _, other := range []int{-1, 0, 4} {
			if s.Drop(number, 1, other) || s.Drop(number, other, 1) || s.Drop(other, 1, 1) {
				t.Errorf("something of %d is dropped: Rows = %v", other, s.Rows())
			}
		}
		if !s.Given() || len(s.Rows()) != 3 || s.Len() != 6 {
			t.Errorf("with all: Rows = %v, Given = %t", s.Rows(), s.Given())
		}
	}
}

// The visited tenant stays, with its deficit, as long as an invocation of it has
// other items, also when the invocation that it visits is dropped.
func TestDropOfTheNextItem(t *testing.T) {
	p := newPair(t, 8)
	p.push(api.Entry{Tenant: 1, TenantWeight: 1, Inv: 1, InvWeight: 1, ID: 1, Cost: 2})
	p.push(api.Entry{Tenant: 1, TenantWeight: 1, Inv: 2, InvWeight: 2, ID: 2, Cost: 9})
	p.push(api.Entry{Tenant: 2, TenantWeight: 1, Inv: 1, InvWeight: 1, ID: 1, Cost: 9})
	p.pick()
	p.drop(1, 1, 1)
	if rows := p.s.Rows(); rows[0].Deficit != 8 || rows[0].Given || !p.s.Given() {
		t.Errorf("Rows = %v, Given = %t", rows, p.s.Given())
	}
	p.pick()
	if rows := p.s.Rows(); rows[0].Tenant != 1 || rows[0].Deficit != 16 || rows[1].Deficit != 8 || !rows[0].Given {
		t.Errorf("Rows = %v", rows)
	}
	p.empty()
}

// do makes one of 14 calls with two tenants, two invocations of each, and two
// items in each of these.
func (p pair) do(call, cost int) {
	p.t.Helper()
	number, inv := call&1, call>>1&1
	x := api.Entry{Tenant: number, TenantWeight: 1 + number, Inv: inv, InvWeight: 2 - inv, ID: 1, Cost: cost}
	switch call >> 2 {
	case 0:
		p.push(x)
	case 1:
		x.ID, x.Cost = 2, 2*cost
		p.push(x)
	case 2:
		p.drop(number, inv, 1)
	default:
		if number == 0 {
			p.pick()
		} else {
			p.take()
		}
	}
}

// Every sequence of four calls in shares that are empty or not, each also with a
// share that is loaded after each call.
func TestEverySequence(t *testing.T) {
	const calls, length = 14, 4
	sequences := 1
	for range length {
		sequences *= calls
	}
	for n := range sequences {
		p := newPair(t, 1+n%3)
		if n/calls%2 == 0 {
			p.push(api.Entry{Tenant: 1, TenantWeight: 2, Inv: 0, InvWeight: 2, ID: 9, Cost: 5})
			p.push(api.Entry{Tenant: 0, TenantWeight: 1, Inv: 1, InvWeight: 1, ID: 9, Cost: 2})
		}
		q := p.again()
		rest := n
		for i := range length {
			p.do(rest%calls, 2+i)
			q.do(rest%calls, 2+i)
			q = q.again()
			rest /= calls
		}
		p.empty()
		q.empty()
	}
}

// weightOf gives a number always the same weight, but for few pushes.
func weightOf(r *rand.Rand, number int) int {
	if r.IntN(20) == 0 {
		return r.IntN(19) - 1
	}
	return 1 + number*5%16
}

func TestAnyMixOfCalls(t *testing.T) {
	r := rand.New(rand.NewPCG(16, 1))
	for range 300 {
		p := newPair(t, 1+r.IntN(1<<r.IntN(7)))
		q := p.again()
		tenants, invs, ids := 1+r.IntN(6), 1+r.IntN(6), 1+r.IntN(6)
		for range 200 {
			call := r.IntN(10)
			number, inv := r.IntN(tenants+1)-r.IntN(2), r.IntN(invs+1)-r.IntN(2)
			y := api.Entry{
				Tenant: number, TenantWeight: weightOf(r, number), Inv: inv, InvWeight: weightOf(r, inv+number),
				ID: r.IntN(ids + 1), Cost: r.IntN(67) - 1,
			}
			for _, x := range []pair{p, q} {
				switch call {
				case 0:
					x.pick()
				case 1, 2:
					x.take()
				case 3:
					x.drop(number, inv, y.ID)
				default:
					x.push(y)
				}
			}
			if r.IntN(5) == 0 {
				q = p.again()
			}
		}
		p.empty()
		q.empty()
	}
}

// Each call takes about as long with many tenants and invocations as with few;
// with calls that go through them this test would not end in time.
func TestLargeShare(t *testing.T) {
	const n = 100_000
	s := share.New(1)
	for i := range n {
		for _, x := range []api.Entry{{Tenant: 0, Inv: n - i}, {Tenant: n - i, Inv: 7}, {Tenant: n - i, Inv: 8}} {
			x.TenantWeight, x.InvWeight, x.ID, x.Cost = 1, 1, 1, 1
			if e := s.Push(x); e != api.OK {
				t.Fatalf("Push(%v) = %d", x, e)
			}
		}
	}
	for i := range n / 2 {
		number := n/4 + i + 1
		if s.Waits(number, 8) != 1 || !s.Drop(number, 8, 1) || !s.Drop(number, 7, 1) || s.Waits(0, number) != 1 || !s.Drop(0, number, 1) {
			t.Fatalf("Drop of %d = false", number)
		}
	}
	for left := n/2 + n; left > 0; left-- {
		x, some := s.Pick()
		y, ok := s.Take()
		if x != y || !some || !ok || s.Len() != left-1 || s.Waits(y.Tenant, y.Inv) != 0 {
			t.Fatalf("Pick = %v, Take = %v, Len = %d; want %d left", x, y, s.Len(), left-1)
		}
	}
	expectEmpty(t, s)
}

// memory returns how many bytes are in use.
func memory() uint64 {
	var stats runtime.MemStats
	runtime.GC()
	runtime.ReadMemStats(&stats)
	return stats.HeapAlloc
}

// What is no longer in a share is not in its memory either: neither invocations
// of a tenant that stays, nor tenants, after Take and after Drop.
func TestNothingElseIsKept(t *testing.T) {
	const n = 100_000
	numbered := func(number int) [2]api.Entry {
		return [2]api.Entry{
			{Tenant: 0, TenantWeight: 1, Inv: number, InvWeight: 1, ID: 1, Cost: 1},
			{Tenant: number, TenantWeight: 1, Inv: 0, InvWeight: 1, ID: 1, Cost: 1},
		}
	}
	for kind, what := range []string{"invocations", "tenants"} {
		s := share.New(1)
		s.Push(numbered(0)[kind])
		before := memory()
		for i := 1; i <= n; i++ {
			taken, dropped := numbered(i)[kind], numbered(n + i)[kind]
			s.Push(taken)
			s.Take()
			s.Push(dropped)
			if !s.Drop(dropped.Tenant, dropped.Inv, 1) || s.Len() != 1 {
				t.Fatalf("Rows = %v after %d %s", s.Rows(), i, what)
			}
		}
		if after := memory(); after > before+1<<20 {
			t.Errorf("%d bytes are kept of %d %s", after-before, 2*n, what)
		}
		runtime.KeepAlive(s)
	}
}
