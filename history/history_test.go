package history_test

import (
	"math"
	"math/rand/v2"
	"slices"
	"strconv"
	"strings"
	"testing"
	"unsafe"

	"billet/api"
	"billet/hist"
	"billet/history"
	"billet/quant"
)

const (
	end      = math.MaxUint64
	greatest = math.MaxInt
	least    = math.MinInt
	last     = 15 // bucket
)

// odd are keys that are not names; all strings are keys.
var odd = []string{"", " ", "\x00", "\x00\x00", "a", "A", "a ", "ä", "a\u0308", "\xff", "\xff\xfe", "\ufffd", strings.Repeat("k", 1000)}

// percents are ordinary ones, the first and the last one, and invalid ones.
var percents = []int{least, -100, -1, 0, 1, 2, 50, 51, 75, 99, 100, 101, 200, greatest}

// model is a table that looks through all of its rows, the least recently used
// one first.
type model struct {
	room int
	rows []api.Row
}

func (m *model) place(key string) int {
	return slices.IndexFunc(m.rows, func(row api.Row) bool { return row.Key == key })
}

func (m *model) observe(key string, ticks uint64) {
	row := api.Row{Key: key, Hist: hist.Add(m.hist(key), ticks)}
	if i := m.place(key); i >= 0 {
		m.rows = slices.Delete(m.rows, i, i+1)
	}
	m.rows = append(m.rows, row)
	if len(m.rows) > m.room {
		m.rows = slices.Delete(m.rows, 0, 1)
	}
}

func (m *model) hist(key string) api.Hist {
	if i := m.place(key); i >= 0 {
		return m.rows[i].Hist
	}
	return api.Hist{}
}

// pair is a table with its model; each call goes to both, and their answers and
// what is in them afterwards must be the same.
type pair struct {
	t     *testing.T
	table *history.Table
	m     *model
}

func newPair(t *testing.T, room int) pair {
	t.Helper()
	table := history.New(room)
	if table == nil {
		t.Fatalf("New(%d) = nil", room)
	}
	p := pair{t, table, &model{room: room}}
	p.same()
	return p
}

func (p pair) same() {
	p.t.Helper()
	if got := p.table.Rows(); !slices.Equal(got, p.m.rows) {
		p.t.Fatalf("Rows = %v; want %v", got, p.m.rows)
	}
}

func (p pair) observe(key string, ticks ...uint64) {
	p.t.Helper()
	for _, v := range ticks {
		p.m.observe(key, v)
		p.table.Observe(key, v)
		p.same()
	}
}

func (p pair) hist(key string) {
	p.t.Helper()
	want := p.m.hist(key)
	if got := p.table.Hist(key); got != want {
		p.t.Fatalf("Hist(%q) = %v; want %v", key, got, want)
	}
	p.same()
}

func (p pair) estimate(key string, percent int) {
	p.t.Helper()
	want, found := quant.Of(p.m.hist(key), percent)
	if got, ok := p.table.Estimate(key, percent); got != want || ok != found {
		p.t.Fatalf("Estimate(%q, %d) = %d, %t; want %d, %t", key, percent, got, ok, want, found)
	}
	p.same()
}

// below tells whether a limit is below an estimate.
func below(limit int, estimate uint64) bool {
	if limit < 0 {
		return estimate > 0
	}
	return uint64(limit) < estimate
}

func (p pair) class(key string, limits []int, percent int) {
	p.t.Helper()
	estimate, found := quant.Of(p.m.hist(key), percent)
	want := slices.IndexFunc(limits, func(limit int) bool { return !found || !below(limit, estimate) })
	switch {
	case !found:
		want = 0
	case want < 0:
		want = len(limits)
	}
	before := slices.Clone(limits)
	if got := p.table.Class(key, limits, percent); got != want {
		p.t.Fatalf("Class(%q, %v, %d) = %d; want %d", key, limits, percent, got, want)
	}
	if !slices.Equal(limits, before) {
		p.t.Fatalf("Class has changed the limits %v to %v", before, limits)
	}
	p.same()
}

// ask makes all queries of a key.
func (p pair) ask(key string) {
	p.t.Helper()
	p.hist(key)
	for _, percent := range percents {
		p.estimate(key, percent)
		p.class(key, []int{1, 7, 100}, percent)
	}
}

// filled returns a pair with room and with these keys, observed in order.
func filled(t *testing.T, room int, keys ...string) pair {
	t.Helper()
	p := newPair(t, room)
	for i, key := range keys {
		p.observe(key, uint64(1)<<i)
	}
	return p
}

// expectKeys fails the test unless a table has these keys, the most recently
// used one last.
func expectKeys(t *testing.T, table *history.Table, want ...string) {
	t.Helper()
	var got []string
	for _, row := range table.Rows() {
		got = append(got, row.Key)
	}
	if !slices.Equal(got, want) {
		t.Fatalf("Rows has the keys %q; want %q", got, want)
	}
}

// P13.1

func TestNew(t *testing.T) {
	for _, room := range []int{1, 2, 3, 32, 1 << 20, 1 << 32, greatest} {
		p := newPair(t, room)
		for _, key := range odd {
			p.ask(key)
		}
		p.observe("a", 5)
		p.ask("a")
		p.ask("b")
	}
}

func TestNoRoom(t *testing.T) {
	for _, room := range []int{0, -1, -2, -1 << 32, least + 1, least} {
		if history.New(room) != nil {
			t.Errorf("New(%d) is a table", room)
		}
	}
}

func TestTablesAreIndependent(t *testing.T) {
	p, q := newPair(t, 2), newPair(t, 2)
	p.observe("a", 1)
	q.observe("a", 9)
	q.observe("b", 3)
	p.same()
	p.observe("a", 4)
	q.same()
	q.ask("a")
}

func TestObserve(t *testing.T) {
	p := newPair(t, 3)
	p.observe("a", 3, 9, 3)
	p.observe("b", 0)
	want := api.Hist{2: 2, 4: 1}
	if got := p.table.Hist("a"); got != want {
		t.Errorf("Hist(a) = %v; want %v", got, want)
	}
	if got := p.table.Hist("b"); got != (api.Hist{0: 1}) {
		t.Errorf("Hist(b) = %v", got)
	}
	if got := p.table.Hist("c"); got != (api.Hist{}) {
		t.Errorf("Hist(c) = %v", got)
	}
	p.ask("a")
	p.ask("b")
	p.ask("c")
}

// All run times count, in the bucket where hist has them.
func TestObserveAnyTicks(t *testing.T) {
	for i := range 64 {
		for _, v := range []uint64{1<<i - 1, 1 << i, end - 1<<i, end} {
			p := newPair(t, 1)
			p.observe("a", v)
			if h := p.table.Hist("a"); h[hist.Bucket(v)] != 1 || hist.Total(h) != 1 {
				t.Fatalf("of %d: %v", v, h)
			}
			p.ask("a")
		}
	}
}

// A histogram that is full forgets half of its run times, that of another key
// none.
func TestObserveOfMany(t *testing.T) {
	p := newPair(t, 2)
	p.observe("b", 1, 1, 1)
	for i := range 300 {
		p.observe("a", uint64(i))
		p.ask("a")
	}
	if h := p.table.Hist("b"); h != (api.Hist{1: 3}) {
		t.Errorf("Hist(b) = %v", h)
	}
	p = newPair(t, 1)
	for range hist.Full {
		p.observe("a", 5)
	}
	p.observe("a", 9)
	if h := p.table.Hist("a"); h != (api.Hist{3: 32, 4: 1}) {
		t.Errorf("one more than %d run times: %v", hist.Full, h)
	}
}

func TestObserveUses(t *testing.T) {
	p := filled(t, 3, "a", "b", "c")
	for _, key := range []string{"a", "a", "c", "b", "c", "a"} {
		p.observe(key, 7)
	}
	expectKeys(t, p.table, "b", "c", "a")
}

func TestObserveRemovesTheLeastRecentlyUsed(t *testing.T) {
	p := filled(t, 3, "a", "b", "c")
	p.observe("a", 1)
	p.observe("d", 1)
	expectKeys(t, p.table, "c", "a", "d")
	p.observe("e", 1)
	expectKeys(t, p.table, "a", "d", "e")
	// What has been removed starts again with the zero histogram.
	p.observe("b", 100)
	expectKeys(t, p.table, "d", "e", "b")
	if h := p.table.Hist("b"); h != (api.Hist{7: 1}) {
		t.Errorf("Hist(b) = %v", h)
	}
	if h := p.table.Hist("a"); h != (api.Hist{}) {
		t.Errorf("Hist of what has been removed = %v", h)
	}
	p.ask("a")
}

// Nothing is removed as long as there is room, up to the last key.
func TestRoom(t *testing.T) {
	for room := 1; room <= 40; room++ {
		p := newPair(t, room)
		for i := range 2*room + 1 {
			p.observe(strconv.Itoa(i), uint64(i))
			if n := len(p.table.Rows()); n != min(i+1, room) {
				t.Fatalf("%d of %d keys with room for %d", n, i+1, room)
			}
		}
	}
}

func TestKeysAreAnyStrings(t *testing.T) {
	p := filled(t, len(odd), odd...)
	for _, key := range odd {
		p.ask(key)
		p.observe(key, 3)
	}
	expectKeys(t, p.table, odd...)
	p = filled(t, 1, "")
	p.observe("a", 1)
	expectKeys(t, p.table, "a")
}

func TestEstimate(t *testing.T) {
	p := newPair(t, 2)
	p.observe("a", 1, 1, 1, 9)
	for _, c := range []struct {
		key     string
		percent int
		want    uint64
		found   bool
	}{
		{"a", 1, 1, true}, {"a", 75, 1, true}, {"a", 76, 15, true}, {"a", 100, 15, true},
		{"a", 0, 0, false}, {"a", 101, 0, false}, {"a", -1, 0, false}, {"a", greatest, 0, false}, {"a", least, 0, false},
		{"b", 50, 0, false}, {"", 50, 0, false},
	} {
		if got, ok := p.table.Estimate(c.key, c.percent); got != c.want || ok != c.found {
			t.Errorf("Estimate(%q, %d) = %d, %t; want %d, %t", c.key, c.percent, got, ok, c.want, c.found)
		}
	}
	p.observe("b", end)
	if got, ok := p.table.Estimate("b", 1); got != end || !ok {
		t.Errorf("Estimate of the greatest run time = %d, %t", got, ok)
	}
}

// A key may be a small part of a long string, which the table must not keep.
func TestKeyIsCopied(t *testing.T) {
	long := strings.Repeat("key", 100)
	key := long[3:6]
	table := history.New(1)
	loaded, _ := history.Load(1, []api.Row{{Key: key, Hist: api.Hist{1}}})
	for range 3 {
		table.Observe(key, 1)
		loaded.Observe(key, 1)
		for _, x := range []*history.Table{table, loaded} {
			if unsafe.StringData(x.Rows()[0].Key) == unsafe.StringData(key) {
				t.Fatal("the table has the caller's string")
			}
		}
	}
}

// P13.2

func TestExample(t *testing.T) {
	table := history.New(1)
	table.Observe("k", 3)
	table.Observe("k", 9)
	limits := []int{4, 20}
	if c := table.Class("k", limits, 50); c != 0 {
		t.Errorf("Class = %d for 50 percent; want 0", c)
	}
	if c := table.Class("k", limits, 51); c != 1 {
		t.Errorf("Class = %d for 51 percent; want 1", c)
	}
}

func TestClass(t *testing.T) {
	p := newPair(t, 4)
	p.observe("fast", 0)
	p.observe("some", 3, 9)
	p.observe("slow", end)
	for _, c := range []struct {
		key     string
		limits  []int
		percent int
		want    int
	}{
		// The estimate is 0: no limit is below it, a negative one neither.
		{"fast", nil, 50, 0}, {"fast", []int{0}, 50, 0}, {"fast", []int{-1, 5}, 50, 0}, {"fast", []int{least}, 100, 0},
		// 3, and from 51 percent on 15: a limit may be equal to it.
		{"some", nil, 50, 0}, {"some", []int{2}, 50, 1}, {"some", []int{3}, 50, 0}, {"some", []int{4}, 50, 0},
		{"some", []int{14}, 51, 1}, {"some", []int{15}, 51, 0}, {"some", []int{16}, 51, 0},
		{"some", []int{3, 15}, 50, 0}, {"some", []int{3, 15}, 51, 1}, {"some", []int{3, 14}, 51, 2}, {"some", []int{3, 14, 15}, 51, 2},
		{"some", []int{-1, 0, 1, 2, 3, 4}, 50, 4},
		// The first limit counts that is not below it, also if later ones are.
		{"some", []int{2, 20, 1, 3, 30}, 50, 1}, {"some", []int{9, 9, 9}, 50, 0}, {"some", []int{5, 4, 3, 2}, 51, 4},
		// A negative limit counts as 0, not as a great number.
		{"some", []int{-1}, 50, 1}, {"some", []int{least}, 50, 1}, {"some", []int{least, -4, 20}, 51, 2},
		{"some", []int{greatest}, 51, 0},
		// No limit reaches the last bucket's end.
		{"slow", []int{1, greatest}, 1, 2}, {"slow", []int{-1, least}, 100, 2}, {"slow", nil, 50, 0},
		// There is no estimate of what has not been observed, nor with such a percent.
		{"none", []int{1, 2}, 50, 0}, {"none", []int{-1}, 50, 0}, {"none", nil, 50, 0},
		{"slow", []int{1, 2}, 0, 0}, {"slow", []int{1, 2}, 101, 0}, {"slow", []int{1, 2}, -1, 0}, {"slow", []int{1, 2}, least, 0}, {"slow", []int{1, 2}, greatest, 0},
	} {
		if got := p.table.Class(c.key, c.limits, c.percent); got != c.want {
			t.Errorf("Class(%q, %v, %d) = %d; want %d", c.key, c.limits, c.percent, got, c.want)
		}
		p.class(c.key, c.limits, c.percent)
	}
}

// Limits on both sides of the end of each bucket.
func TestClassOfEachBucket(t *testing.T) {
	for b := range api.Buckets {
		p := newPair(t, 1)
		p.observe("a", hist.High(b))
		if b == last {
			p.class("a", []int{1 << 20, 1 << 40, greatest}, 50)
			continue
		}
		high := int(hist.High(b))
		for limit := high - 2; limit <= high+2; limit++ {
			want := 0
			if max(limit, 0) < high {
				want = 1
			}
			if got := p.table.Class("a", []int{limit}, 50); got != want {
				t.Errorf("Class = %d of %d with limit %d; want %d", got, high, limit, want)
			}
			p.class("a", []int{limit - 1, limit, limit + 1}, 50)
		}
	}
}

func TestQueriesAreNoUses(t *testing.T) {
	for _, key := range []string{"a", "b", "c", "none"} {
		for _, query := range []func(*history.Table){
			func(x *history.Table) { x.Hist(key) },
			func(x *history.Table) { x.Estimate(key, 50) },
			func(x *history.Table) { x.Estimate(key, 0) },
			func(x *history.Table) { x.Class(key, []int{1}, 50) },
			func(x *history.Table) { x.Class(key, nil, 101) },
			func(x *history.Table) { x.Rows() },
		} {
			p := filled(t, 3, "a", "b", "c")
			query(p.table)
			p.same()
			p.observe("d", 4)
			expectKeys(t, p.table, "b", "c", "d")
		}
	}
}

// P13.3

func TestRows(t *testing.T) {
	p := newPair(t, 4)
	if rows := p.table.Rows(); len(rows) != 0 {
		t.Errorf("Rows of an empty table = %v", rows)
	}
	p.observe("a", 1)
	p.observe("b", 2, 3)
	p.observe("c", 9)
	p.observe("a", 1)
	want := []api.Row{{Key: "b", Hist: api.Hist{2: 2}}, {Key: "c", Hist: api.Hist{4: 1}}, {Key: "a", Hist: api.Hist{1: 2}}}
	if got := p.table.Rows(); !slices.Equal(got, want) {
		t.Errorf("Rows = %v; want %v", got, want)
	}
}

// The rows belong to the caller: neither does a change of them reach the table,
// nor a change of the table them.
func TestRowsAreTheCallers(t *testing.T) {
	p := filled(t, 3, "a", "b", "c")
	rows, other := p.table.Rows(), p.table.Rows()
	before := slices.Clone(other)
	rows[0] = api.Row{Key: "x"}
	rows[1].Hist[3] = 5
	_ = append(rows[:1], api.Row{Key: "z"})
	p.same()
	p.observe("d", 4)
	p.observe("b", 9)
	if !slices.Equal(other, before) {
		t.Errorf("earlier Rows have become %v; were %v", other, before)
	}
}

// counts returns a histogram with these counts, from bucket b on, going on with
// the first one after the last.
func counts(b int, l ...int) api.Hist {
	var h api.Hist
	for i, n := range l {
		h[(b+i)%api.Buckets] = n
	}
	return h
}

// numbered returns n rows with different keys.
func numbered(n int) []api.Row {
	var rows []api.Row
	for i := range n {
		rows = append(rows, api.Row{Key: strconv.Itoa(i), Hist: counts(i%api.Buckets, 1+i%hist.Full)})
	}
	return rows
}

// loaded returns a pair of a table that Load must return.
func loaded(t *testing.T, room int, rows []api.Row) pair {
	t.Helper()
	table, ok := history.Load(room, rows)
	if table == nil || !ok {
		t.Fatalf("Load(%d, %v) = %v, %t", room, rows, table, ok)
	}
	p := pair{t, table, &model{room, slices.Clone(rows)}}
	p.same()
	return p
}

func expectNoLoad(t *testing.T, room int, rows []api.Row) {
	t.Helper()
	if table, ok := history.Load(room, rows); table != nil || ok {
		t.Errorf("Load(%d, %v) = %v, %t; want nil, false", room, rows, table, ok)
	}
}

func TestLoad(t *testing.T) {
	for n := range 10 {
		for _, room := range []int{n, n + 1, n + 2, 32, greatest} {
			if room < 1 {
				continue
			}
			p := loaded(t, room, numbered(n))
			for i := range 12 {
				p.ask(strconv.Itoa(i))
			}
			for i := range 12 {
				p.observe(strconv.Itoa(5*i%12), 100)
			}
		}
	}
	loaded(t, 1, nil)
	loaded(t, 1, []api.Row{})
}

// The first row is the least recently used one: it goes first.
func TestLoadOrder(t *testing.T) {
	p := loaded(t, 3, numbered(3))
	p.observe("new", 1)
	expectKeys(t, p.table, "1", "2", "new")
	p.observe("1", 1)
	p.observe("newer", 1)
	expectKeys(t, p.table, "new", "1", "newer")
}

func TestLoadWithoutRoom(t *testing.T) {
	for _, room := range []int{0, -1, -32, least} {
		expectNoLoad(t, room, nil)
		expectNoLoad(t, room, []api.Row{})
		expectNoLoad(t, room, numbered(1))
	}
	for room := 1; room < 10; room++ {
		expectNoLoad(t, room, numbered(room+1))
		expectNoLoad(t, room, numbered(room+2))
		expectNoLoad(t, room, numbered(40))
	}
}

func TestLoadOfDuplicates(t *testing.T) {
	for n := 2; n <= 5; n++ {
		for i := range n {
			for j := range i {
				rows := numbered(n)
				rows[i].Key = rows[j].Key
				expectNoLoad(t, 8, rows)
				expectNoLoad(t, n, rows)
				rows[i].Hist = rows[j].Hist
				expectNoLoad(t, 8, rows)
				rows[i].Key, rows[j].Key = "", ""
				expectNoLoad(t, 8, rows)
			}
		}
	}
	// Room for all different keys is not enough.
	expectNoLoad(t, 1, []api.Row{numbered(1)[0], numbered(1)[0]})
	// Keys are compared byte by byte.
	var rows []api.Row
	for _, key := range odd {
		rows = append(rows, api.Row{Key: key, Hist: api.Hist{1}})
	}
	loaded(t, len(rows), rows)
}

func TestLoadOfHistograms(t *testing.T) {
	load := func(expect func(*testing.T, int, []api.Row), h api.Hist) {
		t.Helper()
		for i := range 4 {
			rows := numbered(4)
			rows[i].Hist = h
			expect(t, 4, rows)
		}
	}
	valid := func(t *testing.T, room int, rows []api.Row) { loaded(t, room, rows) }
	load(expectNoLoad, api.Hist{})
	var even api.Hist
	for b := range api.Buckets {
		even[b] = hist.Full / api.Buckets
		for _, n := range []int{1, 2, 63, hist.Full} {
			load(valid, counts(b, n))
		}
		for _, n := range []int{hist.Full + 1, 128, greatest, -1, -64, least} {
			load(expectNoLoad, counts(b, n))
		}
		load(valid, counts(b, 63, 1))
		load(expectNoLoad, counts(b, 64, 1))
		// Invalid though the sum is not, or is 0.
		load(expectNoLoad, counts(b, 2, -1))
		load(expectNoLoad, counts(b, 1, -1))
		load(expectNoLoad, counts(b, 65, -1))
		load(expectNoLoad, counts(b, greatest, greatest, 3))
	}
	load(valid, even)
	even[7]++
	load(expectNoLoad, even)
}

// The table has copies of the rows.
func TestLoadKeepsNoRows(t *testing.T) {
	rows := numbered(3)
	p := loaded(t, 4, rows)
	for i := range rows {
		rows[i].Key = "x"
		rows[i].Hist[2]++
	}
	p.same()
	before := slices.Clone(rows[:1])
	q := loaded(t, 4, rows[:1])
	q.observe("x", 1)
	q.observe("y", 1)
	if !slices.Equal(rows[:1], before) || rows[1].Key != "x" {
		t.Errorf("the rows have become %v", rows)
	}
}

func TestNilTable(t *testing.T) {
	var table *history.Table
	for _, key := range odd {
		table.Observe(key, 5)
		if h := table.Hist(key); h != (api.Hist{}) {
			t.Errorf("Hist(%q) = %v", key, h)
		}
		for _, percent := range percents {
			if v, ok := table.Estimate(key, percent); v != 0 || ok {
				t.Errorf("Estimate(%q, %d) = %d, %t", key, percent, v, ok)
			}
			for _, limits := range [][]int{nil, {-1}, {0}, {1, 2, 3}} {
				if c := table.Class(key, limits, percent); c != 0 {
					t.Errorf("Class(%q, %v, %d) = %d", key, limits, percent, c)
				}
			}
		}
		if rows := table.Rows(); len(rows) != 0 {
			t.Errorf("Rows = %v", rows)
		}
	}
}

// P13.4

// do makes one of four calls.
func (p pair) do(call int, key string, v uint64) {
	p.t.Helper()
	switch call {
	case 0:
		p.observe(key, v)
	case 1:
		p.hist(key)
	case 2:
		p.estimate(key, 50)
	case 3:
		p.class(key, []int{1, 2}, 100)
	}
}

// again returns a pair of the table that Load returns for the rows of p's.
func (p pair) again() pair {
	p.t.Helper()
	return loaded(p.t, p.m.room, p.table.Rows())
}

// walk makes every sequence of n calls with the keys a, b and c, with the table
// and with one that is loaded from its rows after each of them.
func walk(t *testing.T, room, n int) {
	const calls = 4 * 3
	sequences := 1
	for range n {
		sequences *= calls
	}
	for s := range sequences {
		p := newPair(t, room)
		q := p.again()
		rest := s
		for i := range n {
			key, v := string(rune('a'+rest/4%3)), uint64(1)<<i
			p.do(rest%4, key, v)
			q.do(rest%4, key, v)
			q = q.again()
			rest /= calls
		}
	}
}

func TestEverySequence(t *testing.T) {
	for room := 1; room <= 4; room++ {
		walk(t, room, 3)
	}
	walk(t, 2, 4)
}

// ticks returns a run time of any number of bits.
func ticks(r *rand.Rand) uint64 {
	return r.Uint64() >> r.IntN(64)
}

func TestAnyMixOfCalls(t *testing.T) {
	r := rand.New(rand.NewPCG(13, 1))
	for range 150 {
		room := 1 + r.IntN(10)
		p := newPair(t, room)
		q := p.again()
		keys := 1 + r.IntN(2*room+2)
		for range 300 {
			key, v := strconv.Itoa(r.IntN(keys)), ticks(r)
			call := max(0, r.IntN(7)-3)
			p.do(call, key, v)
			q.do(call, key, v)
			if r.IntN(10) == 0 {
				q = p.again()
			}
		}
		for i := range keys {
			p.ask(strconv.Itoa(i))
			q.ask(strconv.Itoa(i))
		}
	}
}

// Class and Estimate do not decrease from percent to percent.
func TestMorePercent(t *testing.T) {
	r := rand.New(rand.NewPCG(13, 2))
	for range 300 {
		p := newPair(t, 1)
		for range 1 + r.IntN(100) {
			p.observe("a", ticks(r))
		}
		var limits []int
		for range r.IntN(6) {
			limits = append(limits, int(r.Uint64()>>r.IntN(64)))
		}
		class, estimate := 0, uint64(0)
		for percent := 1; percent <= 100; percent++ {
			p.class("a", limits, percent)
			p.estimate("a", percent)
			c := p.table.Class("a", limits, percent)
			e, _ := p.table.Estimate("a", percent)
			if c < class || e < estimate {
				t.Fatalf("with %d percent class %d and %d ticks, after %d and %d; limits %v", percent, c, e, class, estimate, limits)
			}
			class, estimate = c, e
		}
	}
}

// What a table does depends on its calls alone, not on the order of a map.
func TestSameAnswersAgain(t *testing.T) {
	run := func() []api.Row {
		r := rand.New(rand.NewPCG(13, 3))
		table := history.New(8)
		var l []api.Row
		for range 300 {
			table.Observe(strconv.Itoa(r.IntN(16)), ticks(r))
			l = append(l, table.Rows()...)
		}
		return l
	}
	first := run()
	for range 10 {
		if !slices.Equal(run(), first) {
			t.Fatal("the same calls have had other answers")
		}
	}
}
