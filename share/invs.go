package share

import (
	"billet/api"
	"billet/flow"
)

// invs is the ring of a tenant's invocations, as a source of a ring of tenants.
type invs struct {
	ring *flow.Ring
	// The ring tells the weight of an invocation only together with all items of
	// all of them, so the weights of those that are in it are kept here too.
	weights map[int]int
	waiting int // how many items wait in all invocations
}

func newInvs(quantum int) *invs {
	return &invs{ring: flow.New(quantum), weights: map[int]int{}}
}

// loadInvs returns the invocations with these rows. It returns false if they are
// not rows of a ring.
func loadInvs(quantum int, l []flow.Row, given bool) (*invs, bool) {
	ring, valid := flow.Load(quantum, l, given)
	if !valid {
		return nil, false
	}
	v := &invs{ring: ring, weights: map[int]int{}}
	for _, row := range l {
		v.weights[row.Flow] = row.Weight
		v.waiting += len(row.Items)
	}
	return v, true
}

// Head returns the next item and true, or false if there are no invocations.
func (v *invs) Head() (api.Item, bool) {
	_, x, some := v.ring.Pick()
	return x, some
}

// Pop returns what Head does, and removes the item.
func (v *invs) Pop() (api.Item, bool) {
	inv, x, some := v.ring.Take()
	if some {
		v.remove(inv)
	}
	return x, some
}

// Len returns the number of items that wait in all invocations.
func (v *invs) Len() int {
	return v.waiting
}

// visited returns the invocation of the next item, with its weight.
func (v *invs) visited() (inv, weight int) {
	inv, _, _ = v.ring.Pick()
	return inv, v.weights[inv]
}

// push appends an item to an invocation.
func (v *invs) push(inv, weight int, x api.Item) api.Errno {
	e := v.ring.Push(inv, weight, x)
	if e == api.OK {
		v.weights[inv] = weight
		v.waiting++
	}
	return e
}

// drop removes the item with that ID from an invocation and reports whether there
// was one.
func (v *invs) drop(inv, id int) bool {
	there := v.ring.Drop(inv, id)
	if there {
		v.remove(inv)
	}
	return there
}

// remove accounts for an item that is no longer in the ring, nor is its
// invocation if that was the last one.
func (v *invs) remove(inv int) {
	v.waiting--
	if v.ring.Len(inv) == 0 {
		delete(v.weights, inv)
	}
}
