package share_test

import (
	"slices"
	"testing"

	"billet/api"
	"billet/flow"
	"billet/share"
)

// P16.3

func TestLenAndWaits(t *testing.T) {
	s := share.New(3)
	expect := func(all, n11, n12, n21 int) {
		t.Helper()
		if s.Len() != all || s.Waits(1, 1) != n11 || s.Waits(1, 2) != n12 || s.Waits(2, 1) != n21 {
			t.Errorf("Len = %d, Rows = %v; want %d: %d, %d and %d", s.Len(), s.Rows(), all, n11, n12, n21)
		}
		if s.Waits(2, 2)+s.Waits(0, 1)+s.Waits(1, 0)+s.Waits(3, 1)+s.Waits(-1, -1)+s.Waits(1, -1) != 0 {
			t.Errorf("something waits where nothing is: Rows = %v", s.Rows())
		}
	}
	expect(0, 0, 0, 0)
	for id := 1; id <= 2; id++ {
		s.Push(api.Entry{Tenant: 1, TenantWeight: 1, Inv: 1, InvWeight: 1, ID: id, Cost: 3})
		s.Push(api.Entry{Tenant: 1, TenantWeight: 1, Inv: 2, InvWeight: 1, ID: id, Cost: 3})
		s.Push(api.Entry{Tenant: 2, TenantWeight: 1, Inv: 1, InvWeight: 1, ID: id, Cost: 3})
	}
	expect(6, 2, 2, 2)
	s.Push(api.Entry{Tenant: 2, TenantWeight: 1, Inv: 1, InvWeight: 1, ID: 2, Cost: 3})
	s.Pick()
	expect(6, 2, 2, 2)
	s.Take()
	expect(5, 1, 2, 2)
	s.Take()
	expect(4, 1, 2, 1)
	s.Drop(1, 2, 1)
	s.Drop(1, 2, 1)
	expect(3, 1, 1, 1)
	s.Drop(1, 2, 2)
	expect(2, 1, 0, 1)
	s.Take()
	expect(1, 0, 0, 1)
	s.Take()
	expect(0, 0, 0, 0)
}

// Rows has the visited tenant first, and within each tenant the visited
// invocation.
func TestOrderOfRows(t *testing.T) {
	p := newPair(t, 1)
	for _, number := range []int{5, 1, greatest} {
		for _, inv := range []int{greatest, 3} {
			for id := 1; id <= 2; id++ {
				p.push(api.Entry{Tenant: number, TenantWeight: 2, Inv: inv, InvWeight: 3, ID: id, Cost: 4 - id})
			}
		}
	}
	var tenants, invs []int
	for range 12 {
		p.pick()
		first := p.s.Rows()[0]
		tenants, invs = append(tenants, first.Tenant), append(invs, first.Invs[0].Flow)
		p.take()
	}
	if !slices.Equal(tenants, []int{5, 1, greatest, 5, 1, greatest, 5, 1, greatest, 5, 1, greatest}) {
		t.Errorf("first tenants: %v", tenants)
	}
	if !slices.Equal(invs, []int{greatest, greatest, greatest, 3, 3, 3, greatest, greatest, greatest, 3, 3, 3}) {
		t.Errorf("first invocations: %v", invs)
	}
}

// The rows belong to the caller: neither does a change of them reach the share,
// nor a change of the share them.
func TestRowsAreTheCallers(t *testing.T) {
	p := filled(t, 3, 3)
	p.pick()
	rows, other := p.s.Rows(), p.s.Rows()
	for i := range rows {
		rows[i].Deficit++
		rows[i].Given = !rows[i].Given
		rows[i].Invs[0].Items[0] = api.Item{ID: 99, Cost: 1}
		_ = append(rows[i].Invs[0].Items[:1], api.Item{ID: 98, Cost: 1})
		rows[i].Invs[1] = flow.Row{}
		_ = append(rows[i].Invs[:1], flow.Row{})
	}
	p.same()
	want := p.again().m.rows()
	p.take()
	p.drop(2, 2, 9)
	p.push(entry(2, 2, 50))
	p.empty()
	if !slices.EqualFunc(other, want, equal) {
		t.Errorf("earlier Rows have become %v; want %v", other, want)
	}
}

// copies returns rows that share nothing with l.
func copies(l []share.Row) []share.Row {
	var rows []share.Row
	for _, row := range l {
		row.Invs = slices.Clone(row.Invs)
		for i := range row.Invs {
			row.Invs[i].Items = slices.Clone(row.Invs[i].Items)
		}
		rows = append(rows, row)
	}
	return rows
}

// numbered returns rows of tenants 0, 1, .. with different weights, deficits and
// invocations, of which every other tenant's first one has been given its
// quantum.
func numbered(n int) []share.Row {
	var rows []share.Row
	for i := range n {
		row := share.Row{Tenant: i, Weight: 1 + i%16, Deficit: 7 * i % 65, Given: i%2 == 1}
		for inv := range 3 {
			x := flow.Row{Flow: inv, Weight: 1 + (i+inv*5)%16, Deficit: (11*i + 3*inv) % 65}
			for id := 1; id <= 2; id++ {
				x.Items = append(x.Items, api.Item{ID: id, Cost: 1 + (i+inv+id)*9%64})
			}
			row.Invs = append(row.Invs, x)
		}
		rows = append(rows, row)
	}
	return rows
}

// modelOf returns the model of rows, whose rings a test of flow has seen loaded.
func modelOf(t *testing.T, quantum int, rows []share.Row, given bool) *model {
	t.Helper()
	m := &model{quantum: quantum, given: given}
	for _, row := range rows {
		ring, ok := flow.Load(quantum, row.Invs, row.Given)
		if !ok {
			t.Fatalf("flow's Load(%d, %v, %t) = false", quantum, row.Invs, row.Given)
		}
		m.tenants = append(m.tenants, tenant{row.Tenant, row.Weight, row.Deficit, ring})
	}
	return m
}

// loaded returns a pair whose share was loaded.
func loaded(t *testing.T, quantum int, rows []share.Row, given bool) pair {
	t.Helper()
	s, ok := share.Load(quantum, rows, given)
	if s == nil || !ok {
		t.Fatalf("Load(%d, %v, %t) = %v, %t", quantum, rows, given, s, ok)
	}
	p := pair{t, s, modelOf(t, quantum, rows, given)}
	p.same()
	return p
}

func expectNoLoad(t *testing.T, quantum int, rows []share.Row, given bool) {
	t.Helper()
	if s, ok := share.Load(quantum, rows, given); s != nil || ok {
		t.Errorf("Load(%d, %v, %t) = %v, %t; want nil, false", quantum, rows, given, s, ok)
	}
}

func TestLoad(t *testing.T) {
	for quantum := 1; quantum <= 64; quantum++ {
		for n := range 5 {
			for _, given := range []bool{false, n > 0} {
				p := loaded(t, quantum, numbered(n), given)
				p.push(api.Entry{Tenant: 1, TenantWeight: 2, Inv: 9, InvWeight: 7, ID: 20, Cost: 30})
				p.push(api.Entry{Tenant: 1, TenantWeight: 2, Inv: 1, InvWeight: 7, ID: 20, Cost: 30})
				p.drop(0, 1, 1)
				p.take()
				p.push(entry(9, 9, 20))
				p.empty()
			}
		}
	}
	for _, given := range []bool{false, true} {
		rows := numbered(4)
		for i, number := range []int{greatest, 0, 1 << 32, 7} {
			rows[i].Tenant = number
			rows[i].Invs[i%3].Flow = greatest
		}
		loaded(t, 5, rows, given).empty()
	}
}

// What a loaded share picks has the weights of its rows.
func TestLoadedWeights(t *testing.T) {
	rows := numbered(5)
	s, _ := share.Load(64, rows, false)
	for range 5 * 3 * 2 {
		x, some := s.Pick()
		y, ok := s.Take()
		if x != y || !some || !ok || x.TenantWeight != rows[x.Tenant].Weight || x.InvWeight != rows[x.Tenant].Invs[x.Inv].Weight {
			t.Errorf("Pick = %v, %t, Take = %v, %t of %v", x, some, y, ok, rows)
		}
	}
	expectEmpty(t, s)
}

// The visited tenant gets its quantum once: by the call that led to the rows, or
// by the next one. So does its visited invocation.
func TestLoadGiven(t *testing.T) {
	load := func(given, inner bool) *share.Share {
		t.Helper()
		rows := []share.Row{
			{Tenant: 1, Weight: 2, Deficit: 3, Given: inner, Invs: []flow.Row{
				{Flow: 1, Weight: 2, Deficit: 3, Items: []api.Item{{ID: 11, Cost: 4}}},
				{Flow: 2, Weight: 2, Deficit: 3, Items: []api.Item{{ID: 12, Cost: 4}}},
			}},
			{Tenant: 2, Weight: 1, Invs: []flow.Row{{Flow: 1, Weight: 1, Items: []api.Item{{ID: 21, Cost: 2}}}}},
		}
		s, ok := share.Load(2, rows, given)
		if !ok || s.Given() != given || s.Rows()[0].Given != inner {
			t.Fatalf("Load = %t, Rows = %v, Given = %t", ok, s.Rows(), s.Given())
		}
		return s
	}
	expectTaken(t, load(false, false), 11, 21, 12)
	expectTaken(t, load(false, true), 12, 21, 11)
	expectTaken(t, load(true, false), 21, 11, 12)
	expectTaken(t, load(true, true), 21, 12, 11)
}

func TestLoadWithoutTenants(t *testing.T) {
	for quantum := 1; quantum <= 64; quantum++ {
		for _, rows := range [][]share.Row{nil, {}} {
			p := loaded(t, quantum, rows, false)
			expectEmpty(t, p.s)
			p.push(entry(1, 1, 1))
			p.empty()
			expectNoLoad(t, quantum, rows, true)
		}
	}
}

func TestLoadWithoutQuantum(t *testing.T) {
	for _, quantum := range quanta {
		for n := range 3 {
			expectNoLoad(t, quantum, numbered(n), false)
			expectNoLoad(t, quantum, numbered(n), true)
		}
	}
}

// eachPlace loads four rows, one of which is changed.
func eachPlace(t *testing.T, valid bool, change func(row *share.Row)) {
	t.Helper()
	for i := range 4 {
		for _, given := range []bool{false, true} {
			rows := numbered(4)
			change(&rows[i])
			if valid {
				loaded(t, 3, rows, given).empty()
			} else {
				expectNoLoad(t, 3, rows, given)
			}
		}
	}
}

// eachInvPlace loads four rows, in one of which an invocation is changed.
func eachInvPlace(t *testing.T, valid bool, change func(row *flow.Row)) {
	t.Helper()
	for inv := range 3 {
		eachPlace(t, valid, func(row *share.Row) { change(&row.Invs[inv]) })
	}
}

func TestLoadNumbersAndWeights(t *testing.T) {
	for _, number := range []int{-1, -2, -1 << 32, least} {
		eachPlace(t, false, func(row *share.Row) { row.Tenant = number })
		eachInvPlace(t, false, func(row *flow.Row) { row.Flow = number })
	}
	for _, weight := range []int{1, 2, 15, 16} {
		eachPlace(t, true, func(row *share.Row) { row.Weight = weight })
		eachInvPlace(t, true, func(row *flow.Row) { row.Weight = weight })
	}
	for _, weight := range []int{0, -1, -16, 17, 1<<8 + 1, 1<<32 + 1, least, greatest} {
		eachPlace(t, false, func(row *share.Row) { row.Weight = weight })
		eachInvPlace(t, false, func(row *flow.Row) { row.Weight = weight })
	}
}

func TestLoadOfTenantsTwice(t *testing.T) {
	for n := 2; n <= 5; n++ {
		for i := range n {
			for j := range i {
				rows := numbered(n)
				rows[i].Tenant = rows[j].Tenant
				expectNoLoad(t, 1, rows, false)
				rows[i].Weight = rows[j].Weight
				expectNoLoad(t, 1, rows, false)
				expectNoLoad(t, 1, rows, true)
				rows[i] = rows[j]
				expectNoLoad(t, 1, rows, true)
			}
		}
	}
}

func TestLoadOfInvocationsTwice(t *testing.T) {
	for i := range 3 {
		for j := range i {
			eachPlace(t, false, func(row *share.Row) { row.Invs[i].Flow = row.Invs[j].Flow })
			eachPlace(t, false, func(row *share.Row) { row.Invs[i] = row.Invs[j] })
		}
	}
	// Those of two tenants may have the same numbers.
	rows := numbered(2)
	rows[1].Invs, rows[1].Given = rows[0].Invs, rows[0].Given
	loaded(t, 1, rows, true).empty()
}

func TestLoadDeficits(t *testing.T) {
	for _, deficit := range []int{0, 1, 63, 64} {
		eachPlace(t, true, func(row *share.Row) { row.Deficit = deficit })
		eachInvPlace(t, true, func(row *flow.Row) { row.Deficit = deficit })
	}
	for _, deficit := range []int{-1, -64, least, 1<<32 + 1, greatest, 64 + 16*64, 64 + 16*64 + 1} {
		eachPlace(t, false, func(row *share.Row) { row.Deficit = deficit })
		eachInvPlace(t, false, func(row *flow.Row) { row.Deficit = deficit })
	}
}

// loadOrNot loads rows, or expects that they can't be.
func loadOrNot(t *testing.T, valid bool, quantum int, rows []share.Row, given bool) {
	t.Helper()
	if valid {
		loaded(t, quantum, rows, given)
	} else {
		expectNoLoad(t, quantum, rows, given)
	}
}

// Only the visited tenant may have more than the greatest cost, if it has been
// given its quantum, and so may the visited invocation of any tenant.
func TestLoadGreatestDeficits(t *testing.T) {
	for quantum := 1; quantum <= 64; quantum++ {
		for weight := 1; weight <= 16; weight++ {
			most := 64 + quantum*weight
			for _, deficit := range []int{64, 65, most - 1, most, most + 1} {
				for place := range 3 {
					for _, given := range []bool{false, true} {
						valid := deficit <= 64 || given && place == 0 && deficit <= most
						rows := numbered(3)
						rows[place].Weight, rows[place].Deficit = weight, deficit
						loadOrNot(t, valid, quantum, rows, given)
						rows = numbered(2)
						rows[1].Given = given
						rows[1].Invs[place].Weight, rows[1].Invs[place].Deficit = weight, deficit
						loadOrNot(t, valid, quantum, rows, !given)
					}
				}
			}
		}
	}
}

// A tenant needs an invocation, whether one is said to have been given its quantum
// or not, and an invocation needs items.
func TestLoadEmpty(t *testing.T) {
	for _, invs := range [][]flow.Row{nil, {}} {
		for _, given := range []bool{false, true} {
			eachPlace(t, false, func(row *share.Row) { row.Invs, row.Given = invs, given })
			expectNoLoad(t, 3, []share.Row{{Tenant: 1, Weight: 1, Invs: invs, Given: given}}, false)
			expectNoLoad(t, 3, []share.Row{{Tenant: 1, Weight: 1, Invs: invs, Given: given}}, true)
		}
	}
	for n := range 3 {
		eachPlace(t, n > 0, func(row *share.Row) { row.Invs = row.Invs[:n] })
	}
	eachInvPlace(t, false, func(row *flow.Row) { row.Items = nil })
	eachInvPlace(t, false, func(row *flow.Row) { row.Items = []api.Item{} })
}

func TestLoadItems(t *testing.T) {
	for _, items := range [][]api.Item{
		{{ID: 1, Cost: 1}}, {{ID: greatest, Cost: 64}}, {{ID: 3, Cost: 9}, {ID: 1, Cost: 64}, {ID: 2, Cost: 9}},
	} {
		eachInvPlace(t, true, func(row *flow.Row) { row.Items = items })
	}
	for _, items := range [][]api.Item{
		{{ID: 0, Cost: 1}}, {{ID: -1, Cost: 1}}, {{ID: least, Cost: 1}},
		{{ID: 1, Cost: 0}}, {{ID: 1, Cost: -1}}, {{ID: 1, Cost: 65}}, {{ID: 1, Cost: greatest}},
		{{ID: 1, Cost: 1}, {}}, {{}, {ID: 1, Cost: 1}},
		{{ID: 1, Cost: 1}, {ID: 1, Cost: 1}}, {{ID: 1, Cost: 1}, {ID: 2, Cost: 1}, {ID: 1, Cost: 2}},
	} {
		eachInvPlace(t, false, func(row *flow.Row) { row.Items = items })
	}
}

// The share has copies of the rows and of all that is in them.
func TestLoadKeepsNoRows(t *testing.T) {
	rows := numbered(3)
	before := copies(rows)
	p := loaded(t, 2, rows, true)
	p.push(api.Entry{Tenant: 0, TenantWeight: 1, Inv: 0, InvWeight: 1, ID: 30, Cost: 5})
	p.drop(1, 1, 2)
	p.take()
	if !slices.EqualFunc(rows, before, equal) {
		t.Errorf("the rows have become %v; want %v", rows, before)
	}
	for i := range rows {
		rows[i].Deficit = 60
		rows[i].Invs[0].Items[0] = api.Item{ID: 99, Cost: 2}
		rows[i].Invs[1] = flow.Row{}
	}
	p.same()
	p.empty()
}

func TestNilShare(t *testing.T) {
	expectEmpty(t, nil)
}

func TestSharesAreIndependent(t *testing.T) {
	p, q := filled(t, 3, 2), filled(t, 3, 2)
	p.take()
	p.drop(2, 2, 9)
	q.same()
	q.push(entry(3, 1, 40))
	p.same()
	again := p.again()
	p.empty()
	again.same()
}
