package lru_test

import (
	"errors"
	"math"
	"math/rand/v2"
	"runtime"
	"slices"
	"strconv"
	"strings"
	"testing"
	"unsafe"
	"weak"

	"billet/lru"
)

const (
	greatest = math.MaxInt
	least    = math.MinInt
)

// odd are keys that are not names; all strings are keys.
var odd = []string{"", " ", "\x00", "\x00\x00", "a", "A", "a ", "ä", "a\u0308", "\xff", "\xff\xfe", "\ufffd", strings.Repeat("k", 1000)}

// model is a table that looks through all of its entries: the keys, the least
// recently used one first, and the values beside them.
type model struct {
	room   int
	keys   []string
	values []int
}

func (m *model) place(key string) int {
	return slices.Index(m.keys, key)
}

// take removes the entry at place i.
func (m *model) take(i int) {
	m.keys = slices.Delete(m.keys, i, i+1)
	m.values = slices.Delete(m.values, i, i+1)
}

func (m *model) add(key string, v int) {
	m.keys = append(m.keys, key)
	m.values = append(m.values, v)
}

func (m *model) put(key string, v int) (string, bool) {
	if i := m.place(key); i >= 0 {
		m.take(i)
	}
	m.add(key, v)
	if len(m.keys) <= m.room {
		return "", false
	}
	first := m.keys[0]
	m.take(0)
	return first, true
}

func (m *model) get(key string) (int, bool) {
	i := m.place(key)
	if i < 0 {
		return 0, false
	}
	v := m.values[i]
	m.take(i)
	m.add(key, v)
	return v, true
}

func (m *model) peek(key string) (int, bool) {
	i := m.place(key)
	if i < 0 {
		return 0, false
	}
	return m.values[i], true
}

func (m *model) drop(key string) bool {
	i := m.place(key)
	if i < 0 {
		return false
	}
	m.take(i)
	return true
}

// pair is a table with its model; each call goes to both, and their answers and
// what is in them afterwards must be the same.
type pair struct {
	t     *testing.T
	table *lru.Table[int]
	m     *model
}

func newPair(t *testing.T, room int) pair {
	t.Helper()
	table := lru.New[int](room)
	if table == nil {
		t.Fatalf("New(%d) = nil", room)
	}
	p := pair{t, table, &model{room: room}}
	p.same()
	return p
}

func (p pair) same() {
	p.t.Helper()
	keys := p.table.Keys()
	slices.Reverse(keys)
	if !slices.Equal(keys, p.m.keys) || p.table.Len() != len(p.m.keys) {
		p.t.Fatalf("from the least recently used one on, %q with Len %d; want %q", keys, p.table.Len(), p.m.keys)
	}
	for i, key := range p.m.keys {
		if v, ok := p.table.Peek(key); v != p.m.values[i] || !ok {
			p.t.Fatalf("Peek(%q) = %d, %t; want %d, true", key, v, ok, p.m.values[i])
		}
	}
}

func (p pair) put(key string, v int) {
	p.t.Helper()
	want, removed := p.m.put(key, v)
	if got, ok := p.table.Put(key, v); got != want || ok != removed {
		p.t.Fatalf("Put(%q, %d) = %q, %t; want %q, %t", key, v, got, ok, want, removed)
	}
	p.same()
}

func (p pair) get(key string) {
	p.t.Helper()
	want, there := p.m.get(key)
	if got, ok := p.table.Get(key); got != want || ok != there {
		p.t.Fatalf("Get(%q) = %d, %t; want %d, %t", key, got, ok, want, there)
	}
	p.same()
}

func (p pair) peek(key string) {
	p.t.Helper()
	want, there := p.m.peek(key)
	if got, ok := p.table.Peek(key); got != want || ok != there {
		p.t.Fatalf("Peek(%q) = %d, %t; want %d, %t", key, got, ok, want, there)
	}
	p.same()
}

func (p pair) drop(key string) {
	p.t.Helper()
	want := p.m.drop(key)
	if got := p.table.Drop(key); got != want {
		p.t.Fatalf("Drop(%q) = %t; want %t", key, got, want)
	}
	p.same()
}

// do makes one of four calls.
func (p pair) do(call int, key string, v int) {
	p.t.Helper()
	switch call {
	case 0:
		p.put(key, v)
	case 1:
		p.get(key)
	case 2:
		p.peek(key)
	case 3:
		p.drop(key)
	}
}

// filled returns a pair with room and with these keys, put in order.
func filled(t *testing.T, room int, keys ...string) pair {
	t.Helper()
	p := newPair(t, room)
	for i, key := range keys {
		p.put(key, i+1)
	}
	return p
}

// expectKeys fails the test unless a table has these keys, the most recently
// used one first.
func expectKeys[V any](t *testing.T, table *lru.Table[V], want ...string) {
	t.Helper()
	if got := table.Keys(); !slices.Equal(got, want) || table.Len() != len(want) {
		t.Fatalf("Keys = %q, Len = %d; want %q", got, table.Len(), want)
	}
}

// P12.1

func TestExample(t *testing.T) {
	table := lru.New[string](2)
	table.Put("a", "1")
	table.Put("b", "2")
	table.Get("a")
	if key, ok := table.Put("c", "3"); key != "b" || !ok {
		t.Errorf("Put = %q, %t; want \"b\", true", key, ok)
	}
	if v, ok := table.Peek("b"); v != "" || ok {
		t.Errorf("Peek of what has been removed = %q, %t", v, ok)
	}
	expectKeys(t, table, "c", "a")
}

func TestNew(t *testing.T) {
	for _, room := range []int{1, 2, 3, 32, 1 << 20, 1 << 32, greatest} {
		p := newPair(t, room)
		for _, key := range odd {
			p.get(key)
			p.peek(key)
			p.drop(key)
		}
		expectKeys(t, p.table)
	}
}

func TestNoRoom(t *testing.T) {
	for _, room := range []int{0, -1, -2, -1 << 32, least + 1, least} {
		if lru.New[int](room) != nil || lru.New[string](room) != nil || lru.New[any](room) != nil {
			t.Errorf("New(%d) is a table", room)
		}
	}
}

func TestTablesAreIndependent(t *testing.T) {
	p, q := newPair(t, 2), newPair(t, 2)
	p.put("a", 1)
	q.put("a", 2)
	q.put("b", 3)
	p.same()
	p.drop("a")
	q.same()
}

func TestPutReplaces(t *testing.T) {
	p := filled(t, 3, "a", "b", "c")
	// The oldest key, the newest one, and one between: nothing is removed though
	// the table is full.
	for i, key := range []string{"a", "a", "c", "b", "c", "a"} {
		p.put(key, 10+i)
	}
	expectKeys(t, p.table, "a", "c", "b")
}

func TestPutRemovesTheLeastRecentlyUsed(t *testing.T) {
	p := filled(t, 3, "a", "b", "c")
	for _, c := range []struct{ key, removed string }{{"d", "a"}, {"e", "b"}, {"a", "c"}, {"b", "d"}} {
		p.m.put(c.key, 7)
		if key, ok := p.table.Put(c.key, 7); key != c.removed || !ok {
			t.Errorf("Put(%q) = %q, %t; want %q, true", c.key, key, ok, c.removed)
		}
		p.same()
	}
	expectKeys(t, p.table, "b", "a", "e")
}

// Nothing is removed as long as there is room, up to the last entry.
func TestRoom(t *testing.T) {
	for room := 1; room <= 40; room++ {
		p := newPair(t, room)
		for i := range 2*room + 1 {
			p.put(strconv.Itoa(i), i)
			if p.table.Len() != min(i+1, room) {
				t.Fatalf("%d of %d entries with room for %d", p.table.Len(), i+1, room)
			}
		}
	}
}

func TestRoomForOne(t *testing.T) {
	p := newPair(t, 1)
	p.put("a", 1)
	p.put("a", 2)
	p.get("a")
	p.put("b", 3)
	p.get("a")
	p.peek("b")
	p.drop("b")
	p.put("a", 4)
	expectKeys(t, p.table, "a")
}

// A greatest room is a bound on the entries alone: it takes no memory.
func TestGreatestRoom(t *testing.T) {
	p := newPair(t, greatest)
	for i := range 100 {
		p.put(strconv.Itoa(i%70), i)
	}
	if p.table.Len() != 70 {
		t.Errorf("Len = %d; want 70", p.table.Len())
	}
}

func TestGetUses(t *testing.T) {
	for _, c := range []struct{ key, removed string }{{"a", "b"}, {"b", "a"}, {"c", "a"}, {"none", "a"}} {
		p := filled(t, 3, "a", "b", "c")
		p.get(c.key)
		if key, ok := p.table.Put("d", 4); key != c.removed || !ok {
			t.Errorf("after Get(%q) Put = %q, %t; want %q, true", c.key, key, ok, c.removed)
		}
	}
}

func TestPeekIsNoUse(t *testing.T) {
	for _, peeked := range []string{"a", "b", "c", "none"} {
		p := filled(t, 3, "a", "b", "c")
		p.peek(peeked)
		if key, ok := p.table.Put("d", 4); key != "a" || !ok {
			t.Errorf("after Peek(%q) Put = %q, %t; want \"a\", true", peeked, key, ok)
		}
	}
}

func TestDrop(t *testing.T) {
	for _, order := range [][]string{{"a", "b", "c"}, {"b", "a", "c"}, {"c", "b", "a"}, {"b", "c", "a"}} {
		p := filled(t, 3, "a", "b", "c")
		for _, key := range order {
			p.drop("none")
			p.drop(key)
			p.drop(key)
		}
		expectKeys(t, p.table)
		p.put("b", 9)
		expectKeys(t, p.table, "b")
	}
}

// What is dropped makes room, and is new when it is put again.
func TestDropMakesRoom(t *testing.T) {
	for _, dropped := range []string{"a", "b", "c"} {
		p := filled(t, 3, "a", "b", "c")
		p.drop(dropped)
		p.get(dropped)
		p.put(dropped, 7)
		p.put("d", 8)
		p.put("e", 9)
	}
}

func TestKeysAreAnyStrings(t *testing.T) {
	p := filled(t, len(odd), odd...)
	for i, key := range odd {
		p.get(key)
		p.put(key, i)
	}
	for _, key := range odd {
		p.drop(key)
	}
	// The key that is removed may be the empty one.
	p = filled(t, 1, "")
	if key, ok := p.table.Put("a", 1); key != "" || !ok {
		t.Errorf("Put = %q, %t; want \"\", true", key, ok)
	}
}

// Values are of any type, and come back as they are, also those that are nil.
func TestValues(t *testing.T) {
	errs := lru.New[error](2)
	errs.Put("nil", nil)
	some := errors.New("some")
	errs.Put("some", some)
	for _, get := range []func(string) (error, bool){errs.Get, errs.Peek} {
		if v, ok := get("nil"); v != nil || !ok {
			t.Errorf("of a nil error: %v, %t", v, ok)
		}
		if v, ok := get("some"); v != some || !ok {
			t.Errorf("of an error: %v, %t", v, ok)
		}
		if v, ok := get("none"); v != nil || ok {
			t.Errorf("of no error: %v, %t", v, ok)
		}
	}

	values := lru.New[any](10)
	for i, v := range []any{nil, 0, "", 1.5, [2]int{1, 2}, struct{}{}, (*int)(nil), error(nil), some, 'r'} {
		key := strconv.Itoa(i)
		values.Put(key, v)
		if got, ok := values.Get(key); got != v || !ok {
			t.Errorf("of %v: %v, %t", v, got, ok)
		}
	}
	values.Put("0", 5)
	values.Put("0", nil)
	if got, ok := values.Peek("0"); got != nil || !ok {
		t.Errorf("of nil put in the place of 5: %v, %t", got, ok)
	}

	nothings := lru.New[struct{}](1)
	nothings.Put("a", struct{}{})
	if _, ok := nothings.Get("a"); !ok {
		t.Error("a value without a size has been lost")
	}

	funcs := lru.New[func() int](1)
	funcs.Put("a", func() int { return 7 })
	if f, ok := funcs.Get("a"); !ok || f() != 7 {
		t.Error("a function has been lost")
	}
	if f, ok := funcs.Get("b"); f != nil || ok {
		t.Error("there is a function b")
	}

	arrays := lru.New[[3]int](1)
	a := [3]int{1, 2, 3}
	arrays.Put("a", a)
	a[0] = 9
	if v, ok := arrays.Peek("a"); v != [3]int{1, 2, 3} || !ok {
		t.Errorf("of an array: %v, %t", v, ok)
	}
	if v, ok := arrays.Peek("b"); v != [3]int{} || ok {
		t.Errorf("of no array: %v, %t", v, ok)
	}
}

// A table of tables is one like any other, also when the inner one is nil.
func TestTableOfTables(t *testing.T) {
	outer := lru.New[*lru.Table[int]](2)
	inner := lru.New[int](1)
	outer.Put("a", inner)
	outer.Put("b", nil)
	if v, ok := outer.Get("a"); v != inner || !ok {
		t.Errorf("a = %v, %t", v, ok)
	}
	if v, ok := outer.Get("b"); v != nil || !ok {
		t.Errorf("b = %v, %t", v, ok)
	}
}

// P12.2

func TestKeys(t *testing.T) {
	p := filled(t, 4, "a", "b", "c", "d")
	expectKeys(t, p.table, "d", "c", "b", "a")
	p.get("b")
	expectKeys(t, p.table, "b", "d", "c", "a")
	p.put("a", 9)
	expectKeys(t, p.table, "a", "b", "d", "c")
	p.peek("c")
	expectKeys(t, p.table, "a", "b", "d", "c")
	p.drop("b")
	expectKeys(t, p.table, "a", "d", "c")
	p.put("b", 8)
	expectKeys(t, p.table, "b", "a", "d", "c")
	p.put("e", 7)
	expectKeys(t, p.table, "e", "b", "a", "d")
}

// The keys belong to the caller: neither does a change of them reach the table,
// nor a change of the table them.
func TestKeysAreTheCallers(t *testing.T) {
	p := filled(t, 3, "a", "b", "c")
	keys := p.table.Keys()
	other := p.table.Keys()
	keys[0], keys[1] = "x", "y"
	_ = append(keys[:1], "z", "z")
	p.same()
	p.put("d", 4)
	p.get("b")
	if want := []string{"c", "b", "a"}; !slices.Equal(other, want) {
		t.Errorf("an earlier Keys has become %q; want %q", other, want)
	}
}

func expectNothing[V comparable](t *testing.T, table *lru.Table[V], v V) {
	t.Helper()
	var none V
	for _, key := range odd {
		if k, ok := table.Put(key, v); k != "" || ok {
			t.Errorf("Put(%q) = %q, %t", key, k, ok)
		}
		if v, ok := table.Get(key); v != none || ok {
			t.Errorf("Get(%q) = %v, %t", key, v, ok)
		}
		if v, ok := table.Peek(key); v != none || ok {
			t.Errorf("Peek(%q) = %v, %t", key, v, ok)
		}
		if table.Drop(key) {
			t.Errorf("Drop(%q) = true", key)
		}
		expectKeys(t, table)
	}
}

func TestNilTable(t *testing.T) {
	expectNothing(t, nil, 5)
	expectNothing(t, nil, "five")
	expectNothing[any](t, nil, 5)
	expectNothing(t, lru.New[int](0), 5)
	expectNothing(t, lru.New[[2]int](least), [2]int{5, 6})
}

// P12.3

// walk makes every sequence of n calls with the keys a, b and c.
func walk(t *testing.T, room, n int) {
	const calls = 4 * 3
	sequences := 1
	for range n {
		sequences *= calls
	}
	for s := range sequences {
		p := newPair(t, room)
		rest := s
		for i := range n {
			p.do(rest%4, string(rune('a'+rest/4%3)), i+1)
			rest /= calls
		}
	}
}

func TestEverySequence(t *testing.T) {
	for room := 1; room <= 4; room++ {
		walk(t, room, 4)
	}
	walk(t, 2, 5)
}

func TestAnyMixOfCalls(t *testing.T) {
	r := rand.New(rand.NewPCG(12, 1))
	for range 400 {
		room := 1 + r.IntN(12)
		p := newPair(t, room)
		keys := 1 + r.IntN(2*room+2)
		for i := range 200 {
			key := strconv.Itoa(r.IntN(keys))
			before := p.table.Len()
			// Puts twice as often as others, so that the table is often full.
			call := max(0, r.IntN(5)-1)
			p.do(call, key, i)
			if p.table.Len() > room || call != 3 && p.table.Len() < before {
				t.Fatalf("%d entries, after %d, with room for %d", p.table.Len(), before, room)
			}
			if _, there := p.table.Peek(key); call == 0 && (!there || p.table.Keys()[0] != key) {
				t.Fatalf("%q was used last, but %q has the keys", key, p.table.Keys())
			}
		}
	}
}

// What a table does depends on its calls alone, not on the order of a map.
func TestSameAnswersAgain(t *testing.T) {
	run := func() []string {
		r := rand.New(rand.NewPCG(12, 2))
		table := lru.New[int](8)
		var l []string
		for i := range 500 {
			key, removed := table.Put(strconv.Itoa(r.IntN(16)), i)
			table.Get(strconv.Itoa(r.IntN(16)))
			l = append(append(l, key, strconv.FormatBool(removed)), table.Keys()...)
		}
		return l
	}
	first := run()
	for range 10 {
		if !slices.Equal(run(), first) {
			t.Fatal("the same calls have had other answers")
		}
	}
}

// A key may be a small part of a long string, which the table must not keep.
func TestKeyIsCopied(t *testing.T) {
	long := strings.Repeat("key", 100)
	key := long[3:6]
	table := lru.New[int](1)
	kept := func() *byte { return unsafe.StringData(table.Keys()[0]) }
	for _, use := range []func(){
		func() { table.Put(key, 1) },
		func() { table.Put(key, 2) },
		func() { table.Get(key) },
	} {
		use()
		if kept() == unsafe.StringData(key) {
			t.Fatal("the table has the caller's string")
		}
	}
}

// put stores a value that nothing but the table refers to.
func put(table *lru.Table[*[64]int], key string) weak.Pointer[[64]int] {
	v := new([64]int)
	table.Put(key, v)
	return weak.Make(v)
}

// What is no longer in a table is not in its memory either.
func TestNothingElseIsKept(t *testing.T) {
	table := lru.New[*[64]int](2)
	replaced, removed := put(table, "a"), put(table, "b")
	dropped := put(table, "a")
	left := put(table, "c")
	table.Drop("a")
	expectKeys(t, table, "c")
	runtime.GC()
	if replaced.Value() != nil || removed.Value() != nil || dropped.Value() != nil {
		t.Error("a value that is not in the table is kept")
	}
	if left.Value() == nil {
		t.Error("a value of the table is lost")
	}
	runtime.KeepAlive(table)
}
