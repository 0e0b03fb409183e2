// Package robin shares capacity among flows by deficit round robin, whatever it
// is that waits in them.
package robin

import "billet/api"

// Source is what waits in a flow: a queue, or a ring itself.
type Source interface {
	Head() (api.Item, bool) // the next item
	Pop() (api.Item, bool)  // the same, and removes it
	Len() int               // how many items wait
}

// Flow is a source with its number, weight and deficit.
type Flow struct {
	Source
	Number, Weight, Deficit int
}

// link is a flow with its neighbours; the last one and the first one are
// neighbours too, so that a flow moves to the end by visiting the next one.
type link struct {
	Flow
	before, after *link
}

// Ring is a sequence of flows in which something waits. The first one is the one
// being visited.
type Ring struct {
	quantum int
	links   map[int]*link // by the numbers of their flows
	visited *link         // nil if there are no flows
	given   bool          // whether the visited flow has been given its quantum
}

// New returns a ring without flows, or nil if the quantum is not from 1 to
// MaxCost.
func New(quantum int) *Ring {
	if quantum < 1 || quantum > api.MaxCost {
		return nil
	}
	return &Ring{quantum: quantum, links: map[int]*link{}}
}

// Load returns a ring with these flows. It returns false if no calls can have
// led to it.
func Load(quantum int, l []Flow, given bool) (*Ring, bool) {
	r := New(quantum)
	if r == nil || given && len(l) == 0 {
		return nil, false
	}
	for i, f := range l {
		most := api.MaxCost
		if given && i == 0 {
			most += quantum * f.Weight
		}
		_, there := r.Flow(f.Number)
		if there || !r.Fits(f.Number, f.Weight) || f.Deficit < 0 || f.Deficit > most || f.Len() == 0 {
			return nil, false
		}
		r.Append(f)
	}
	r.given = given
	return r, true
}

// Fits reports whether a flow with this number and weight is in the ring or may
// be appended to it.
func (r *Ring) Fits(number, weight int) bool {
	f, there := r.Flow(number)
	return number >= 0 && weight >= 1 && weight <= api.MaxWeight && (!there || f.Weight == weight)
}

// Flow returns the flow with that number and true, or false if it is not in the
// ring.
func (r *Ring) Flow(number int) (Flow, bool) {
	x, there := r.links[number]
	if !there {
		return Flow{}, false
	}
	return x.Flow, true
}

// Flows returns the flows in order.
func (r *Ring) Flows() []Flow {
	var flows []Flow
	x := r.visited
	for range len(r.links) {
		flows = append(flows, x.Flow)
		x = x.after
	}
	return flows
}

// Given reports whether the first flow has been given its quantum.
func (r *Ring) Given() bool {
	return r.given
}

// Append adds a flow that is not in the ring, and in which something waits.
func (r *Ring) Append(f Flow) {
	x := &link{Flow: f}
	r.links[f.Number] = x
	if r.visited == nil {
		r.visited, x.before = x, x
	}
	join(r.visited.before, x)
	join(x, r.visited)
}

// Pick visits flows until the deficit of one of them covers its next item, and
// returns this flow, the item and true, or false if there are no flows.
func (r *Ring) Pick() (Flow, api.Item, bool) {
	for r.visited != nil {
		x := r.visited
		if !r.given {
			x.Deficit += r.quantum * x.Weight
			r.given = true
		}
		if item, _ := x.Head(); item.Cost <= x.Deficit {
			return x.Flow, item, true
		}
		r.visitNext()
	}
	return Flow{}, api.Item{}, false
}

// Take returns what Pick does, removes the item, and subtracts its cost from the
// deficit.
func (r *Ring) Take() (Flow, api.Item, bool) {
	f, item, some := r.Pick()
	if !some {
		return Flow{}, api.Item{}, false
	}
	r.visited.Pop()
	r.visited.Deficit -= item.Cost
	r.Settle(f.Number)
	return f, item, true
}

// Settle removes the flow with that number if nothing waits in it any more.
func (r *Ring) Settle(number int) {
	x, there := r.links[number]
	if !there || x.Len() > 0 {
		return
	}
	if x == r.visited {
		r.visitNext()
	}
	join(x.before, x.after)
	delete(r.links, number)
	if len(r.links) == 0 {
		r.visited = nil
	}
}

// visitNext moves the visited flow to the end.
func (r *Ring) visitNext() {
	r.visited = r.visited.after
	r.given = false
}

// join makes two links neighbours.
func join(before, after *link) {
	before.after = after
	after.before = before
}
