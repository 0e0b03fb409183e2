package share_test

import (
	"math/rand/v2"
	"slices"
	"testing"

	"billet/api"
	"billet/share"
)

// side is a tenant or an invocation whose fairness is held against that of
// others; something always waits in it.
type side struct{ weight, cost int }

// anySides returns some of different weights and greatest costs.
func anySides(r *rand.Rand) []side {
	var sides []side
	for range 2 + r.IntN(3) {
		sides = append(sides, side{1 + r.IntN(16), 1 + r.IntN(1<<r.IntN(7))})
	}
	return sides
}

// market is a share in which entries come and go while some tenants, or some
// invocations of tenant 0, always have one more.
type market struct {
	t  *testing.T
	r  *rand.Rand
	s  *share.Share
	id int
}

func (m *market) push(tenant, weight, inv, invWeight, most int) {
	m.t.Helper()
	m.id++
	x := api.Entry{Tenant: tenant, TenantWeight: weight, Inv: inv, InvWeight: invWeight, ID: m.id, Cost: 1 + m.r.IntN(most)}
	if e := m.s.Push(x); e != api.OK {
		m.t.Fatalf("Push(%v) = %d", x, e)
	}
}

// refill calls push until two items wait, and sometimes once more.
func (m *market) refill(waits int, push func()) {
	m.t.Helper()
	for n := waits; n < 2 || m.r.IntN(3) == 0; n++ {
		push()
	}
}

// disturb pushes to a tenant of its own, or drops from there, or picks.
func (m *market) disturb() {
	const guest = 20
	switch m.r.IntN(4) {
	case 0:
		m.push(guest, 9, m.r.IntN(3), 4, 64)
	case 1:
		m.s.Drop(guest, m.r.IntN(3), m.id-m.r.IntN(10))
	case 2:
		m.s.Pick()
	}
}

// record calls Take often, each time after prepare, and returns how much of each
// side, as number tells it of an entry, has been taken before each call and after
// the last one.
func (m *market) record(sides int, prepare func(), number func(x api.Entry) int) [][]int {
	sum := make([]int, sides)
	sums := [][]int{slices.Clone(sum)}
	for range 120 {
		prepare()
		m.disturb()
		x, _ := m.s.Take()
		if i := number(x); i >= 0 && i < sides {
			sum[i] += x.Cost
		}
		sums = append(sums, slices.Clone(sum))
	}
	return sums
}

// expectFair fails the test if in any interval two sides have been taken too
// differently.
func expectFair(t *testing.T, sums [][]int, quantum int, sides []side) {
	t.Helper()
	for to, after := range sums {
		for from, before := range sums[:to] {
			for i, a := range sides {
				for j, b := range sides[:i] {
					x, y := after[i]-before[i], after[j]-before[j]
					// x / a.weight and y / b.weight, times both weights.
					if d := x*b.weight - y*a.weight; max(d, -d) > quantum*a.weight*b.weight+a.cost*b.weight+b.cost*a.weight {
						t.Fatalf("quantum %d: from %d to %d, %d of %v, but %d of %v", quantum, from, to, x, a, y, b)
					}
				}
			}
		}
	}
}

// P16.4

// Each tenant's entries are of invocations that come and go, with any weights.
func TestFairnessAmongTenants(t *testing.T) {
	r := rand.New(rand.NewPCG(16, 4))
	for range 150 {
		quantum := 1 + r.IntN(1<<r.IntN(7))
		sides := anySides(r)
		m := &market{t: t, r: r, s: share.New(quantum)}
		waits := func(tenant int) int {
			n := 0
			for inv := range 4 {
				n += m.s.Waits(tenant, inv)
			}
			return n
		}
		sums := m.record(len(sides), func() {
			for i, x := range sides {
				m.refill(waits(i), func() {
					inv := r.IntN(4)
					m.push(i, x.weight, inv, 1+(i+inv*7)%16, x.cost)
				})
			}
		}, func(x api.Entry) int { return x.Tenant })
		expectFair(t, sums, quantum, sides)
	}
}

// P16.5

// Other tenants, and other invocations of the same one, come and go.
func TestFairnessWithinATenant(t *testing.T) {
	r := rand.New(rand.NewPCG(16, 5))
	for range 150 {
		quantum := 1 + r.IntN(1<<r.IntN(7))
		sides := anySides(r)
		m := &market{t: t, r: r, s: share.New(quantum)}
		guest, weight := len(sides), 1+r.IntN(16)
		sums := m.record(len(sides), func() {
			for i, x := range sides {
				m.refill(m.s.Waits(0, i), func() { m.push(0, weight, i, x.weight, x.cost) })
			}
			if r.IntN(4) == 0 {
				m.push(0, weight, guest, 5, 64)
			}
			m.s.Drop(0, guest, m.id-r.IntN(20))
		}, func(x api.Entry) int {
			if x.Tenant != 0 {
				return -1
			}
			return x.Inv
		})
		expectFair(t, sums, quantum, sides)
	}
}

// Over a long time, tenants share by their weights, and so do the invocations of
// each, whatever their costs are and how many invocations a tenant has.
func TestSharesFollowWeights(t *testing.T) {
	s, id := share.New(4), 0
	tenants, invs := []int{1, 3, 16}, []int{2, 1, 5}
	var sums [3]int
	var parts [3][3]int
	for range 30_000 {
		for i, weight := range tenants {
			for j := range i + 1 {
				id++
				s.Push(api.Entry{Tenant: i, TenantWeight: weight, Inv: j, InvWeight: invs[j], ID: id, Cost: 1 + (7*i+30*j)%64})
			}
		}
		x, _ := s.Take()
		sums[x.Tenant] += x.Cost
		parts[x.Tenant][x.Inv] += x.Cost
	}
	for i, weight := range tenants {
		if part := sums[i] / weight; part < sums[0]-150 || part > sums[0]+150 {
			t.Errorf("taken %v with the weights %v", sums, tenants)
		}
		for j := range i + 1 {
			if part, first := parts[i][j]/invs[j], parts[i][0]/invs[0]; part < first-150 || part > first+150 {
				t.Errorf("taken %v of the tenant %d with the weights %v", parts[i], i, invs)
			}
		}
	}
}

// P16.6

// What Rows and Given tell can be loaded at any time, and the share goes on in the
// same way, with the same calls.
func TestLoadedShareGoesOn(t *testing.T) {
	r := rand.New(rand.NewPCG(16, 7))
	for range 60 {
		p := newPair(t, 1+r.IntN(64))
		for i := range 60 {
			number, inv := r.IntN(5), r.IntN(4)
			p.push(api.Entry{Tenant: number, TenantWeight: 1 + number*3, Inv: inv, InvWeight: 1 + inv*5, ID: 1 + i, Cost: 1 + r.IntN(64)})
			switch r.IntN(4) {
			case 0:
				p.pick()
			case 1:
				p.take()
			case 2:
				p.drop(r.IntN(5), r.IntN(4), 1+r.IntN(60))
			}
		}
		for len(p.m.tenants) > 0 {
			q := p.again()
			for range 5 {
				q.take()
			}
			q.pick()
			p.take()
		}
	}
}

// What a share does depends on its calls alone, not on the order of a map.
func TestSameAnswersAgain(t *testing.T) {
	run := func() []api.Entry {
		p := filled(t, 6, 6)
		var l []api.Entry
		for range 72 {
			x, _ := p.s.Take()
			l = append(l, x)
		}
		return l
	}
	first := run()
	for range 10 {
		if !slices.Equal(run(), first) {
			t.Fatal("the same calls have had other answers")
		}
	}
}
