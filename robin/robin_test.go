package robin_test

import (
	"slices"
	"testing"

	"billet/api"
	"billet/fifo"
	"billet/robin"
)

// What a ring of queues does is tested in flow, whose rings are such ones. The
// tests here are of rings of rings, and of what flow does not lead to.

// nested is a ring of queues as a source.
type nested struct {
	*robin.Ring
	waiting int
}

func (s *nested) Head() (api.Item, bool) {
	_, x, some := s.Pick()
	return x, some
}

func (s *nested) Pop() (api.Item, bool) {
	_, x, some := s.Take()
	s.waiting--
	return x, some
}

func (s *nested) Len() int { return s.waiting }

// queue returns a flow of weight 1, in which wait items with these IDs and the
// cost 1.
func queue(number int, ids ...int) robin.Flow {
	q := fifo.New()
	for _, id := range ids {
		q.Push(api.Item{ID: id, Cost: 1})
	}
	return robin.Flow{Source: q, Number: number, Weight: 1}
}

// ring returns a flow of weight 1, in which a ring of these flows waits.
func ring(number int, flows ...robin.Flow) robin.Flow {
	s := &nested{Ring: robin.New(1)}
	for _, f := range flows {
		s.Append(f)
		s.waiting += f.Len()
	}
	return robin.Flow{Source: s, Number: number, Weight: 1}
}

// rings returns a ring of two rings, one of two queues and one of a single one.
func rings() *robin.Ring {
	r := robin.New(1)
	r.Append(ring(7, queue(1, 11, 12, 13), queue(2, 21, 22, 23)))
	r.Append(ring(8, queue(1, 31, 32, 33)))
	return r
}

// numbersOf returns the numbers of the flows of a ring, in order.
func numbersOf(r *robin.Ring) []int {
	var numbers []int
	for _, f := range r.Flows() {
		numbers = append(numbers, f.Number)
	}
	return numbers
}

// The rings share by halves, and so do the queues of the first one.
func TestRingOfRings(t *testing.T) {
	r := rings()
	var numbers, ids []int
	for {
		f, x, some := r.Take()
		if !some {
			break
		}
		numbers, ids = append(numbers, f.Number), append(ids, x.ID)
	}
	if !slices.Equal(ids, []int{11, 31, 21, 32, 12, 33, 22, 13, 23}) || !slices.Equal(numbers, []int{7, 8, 7, 8, 7, 8, 7, 7, 7}) {
		t.Errorf("Take returns %v of %v", ids, numbers)
	}
	if len(r.Flows()) != 0 || r.Given() {
		t.Errorf("Flows = %v, Given = %t", r.Flows(), r.Given())
	}
}

// A ring that waits in another one advances only when it is visited, and not by
// the Take of its last item in a visit.
func TestRingAdvancesWhenVisited(t *testing.T) {
	r := rings()
	f, _ := r.Flow(7)
	g, _ := r.Flow(8)
	first, second := f.Source.(*nested), g.Source.(*nested)
	r.Take()
	if got := numbersOf(first.Ring); !slices.Equal(got, []int{1, 2}) || !first.Given() || second.Given() {
		t.Errorf("after Take, %v in the first ring, Given = %t; %t of the second", got, first.Given(), second.Given())
	}
	r.Pick()
	if got := numbersOf(first.Ring); !slices.Equal(got, []int{2, 1}) || !first.Given() || !second.Given() {
		t.Errorf("after Pick, %v in the first ring, Given = %t; %t of the second", got, first.Given(), second.Given())
	}
}

func TestFits(t *testing.T) {
	r := robin.New(1)
	r.Append(robin.Flow{Source: queue(0, 1).Source, Number: 3, Weight: 5})
	for _, c := range []struct {
		number, weight int
		want           bool
	}{
		{3, 5, true}, {3, 4, false}, {3, 0, false}, {0, 1, true}, {0, 16, true}, {0, 17, false}, {0, 0, false}, {-1, 1, false},
	} {
		if got := r.Fits(c.number, c.weight); got != c.want {
			t.Errorf("Fits(%d, %d) = %t", c.number, c.weight, got)
		}
	}
}

// Only a flow in which nothing waits is removed.
func TestSettle(t *testing.T) {
	r := robin.New(1)
	for number := 1; number <= 3; number++ {
		r.Append(queue(number, 1))
	}
	r.Pick()
	for number := range 5 {
		r.Settle(number)
	}
	if got := numbersOf(r); !slices.Equal(got, []int{1, 2, 3}) || !r.Given() {
		t.Fatalf("flows %v, Given = %t", got, r.Given())
	}
	for _, number := range []int{2, 1, 3} {
		f, _ := r.Flow(number)
		f.Pop()
		r.Settle(number)
		if _, there := r.Flow(number); there || r.Given() != (number == 2) {
			t.Errorf("without %d: flows %v, Given = %t", number, numbersOf(r), r.Given())
		}
	}
	if f, x, some := r.Pick(); f != (robin.Flow{}) || x != (api.Item{}) || some {
		t.Errorf("Pick = %v, %v, %t without flows", f, x, some)
	}
}

func TestLoadRefusesEmptySources(t *testing.T) {
	if r, ok := robin.Load(1, []robin.Flow{queue(1, 1), ring(2)}, false); r != nil || ok {
		t.Errorf("Load = %v, %t with an empty ring", r, ok)
	}
	r, ok := robin.Load(1, []robin.Flow{queue(1, 1), ring(2, queue(1, 5))}, true)
	if !ok {
		t.Fatal("Load = false")
	}
	if f, x, _ := r.Take(); f.Number != 2 || x.ID != 5 {
		t.Errorf("Take = %d, %v; want 2 and the item 5", f.Number, x)
	}
}
