package conf_test

import (
	"math"
	"reflect"
	"slices"
	"strings"
	"testing"

	"billet/api"
	"billet/conf"
)

const (
	greatest = math.MaxInt
	least    = math.MinInt
)

// ordinary returns a valid configuration. Its Most is as great as possible, so
// that its Base can be anything that a Base may be.
func ordinary() api.Config {
	return api.Config{
		Tenants: []api.Tenant{
			{Name: "a", Weight: 1, Quota: 9}, {Name: "b", Weight: 2, Quota: 1}, {Name: "ö-1", Weight: 3, Quota: 2},
		},
		Limits:  []int{3, 8},
		Quantum: 4, Cost: 5, Cap: 6, Invs: 7, Weight: 8,
		Pools: 2, Retries: 3, Preempts: 4,
		Base: 10, Most: api.MaxTicks, Lease: 30,
		Dead: 11, Keep: 12, Keys: 13, Percent: 50,
		Workers: 14, Watch: 15,
	}
}

// lowest returns a valid configuration with the least numbers.
func lowest() api.Config {
	return api.Config{
		Tenants: []api.Tenant{{Name: "a", Weight: 1, Quota: 1}},
		Quantum: 1, Cost: 1, Cap: 1, Invs: 1, Weight: 1,
		Pools: 1, Base: 1, Most: 1, Lease: 1,
		Dead: 1, Keep: 1, Keys: 1, Percent: 1, Workers: 1,
	}
}

// highest returns a valid configuration with the greatest numbers.
func highest() api.Config {
	return api.Config{
		Tenants: tenants("a", "b", "c", "d", "e", "f"),
		Limits:  []int{api.MaxTicks - 2, api.MaxTicks - 1, api.MaxTicks},
		Quantum: 64, Cost: 64, Cap: 32, Invs: 8, Weight: 16,
		Pools: 8, Retries: 5, Preempts: 5,
		Base: 1 << 20, Most: 1 << 20, Lease: 1 << 20,
		Dead: 32, Keep: 64, Keys: 32, Percent: 100,
		Workers: 16, Watch: 16,
	}
}

// tenants returns tenants with these names, a weight and a quota that are as
// great as possible.
func tenants(names ...string) []api.Tenant {
	var l []api.Tenant
	for _, n := range names {
		l = append(l, api.Tenant{Name: n, Weight: 16, Quota: 256})
	}
	return l
}

// fields are the fields of a configuration that are single numbers, with what
// they may be in an ordinary one.
var fields = []struct {
	name        string
	of          func(c *api.Config) *int
	least, most int
}{
	{"Quantum", func(c *api.Config) *int { return &c.Quantum }, 1, api.MaxCost},
	{"Cost", func(c *api.Config) *int { return &c.Cost }, 1, api.MaxCost},
	{"Cap", func(c *api.Config) *int { return &c.Cap }, 1, api.MaxCap},
	{"Invs", func(c *api.Config) *int { return &c.Invs }, 1, api.MaxInvs},
	{"Weight", func(c *api.Config) *int { return &c.Weight }, 1, api.MaxWeight},
	{"Pools", func(c *api.Config) *int { return &c.Pools }, 1, api.MaxPools},
	{"Retries", func(c *api.Config) *int { return &c.Retries }, 0, api.MaxRetries},
	{"Preempts", func(c *api.Config) *int { return &c.Preempts }, 0, api.MaxPreempts},
	{"Base", func(c *api.Config) *int { return &c.Base }, 1, api.MaxTicks},
	{"Most", func(c *api.Config) *int { return &c.Most }, 10, api.MaxTicks},
	{"Lease", func(c *api.Config) *int { return &c.Lease }, 1, api.MaxTicks},
	{"Dead", func(c *api.Config) *int { return &c.Dead }, 1, api.MaxDead},
	{"Keep", func(c *api.Config) *int { return &c.Keep }, 1, api.MaxKeep},
	{"Keys", func(c *api.Config) *int { return &c.Keys }, 1, api.MaxKeys},
	{"Percent", func(c *api.Config) *int { return &c.Percent }, 1, 100},
	{"Workers", func(c *api.Config) *int { return &c.Workers }, 1, api.MaxWorkers},
	{"Watch", func(c *api.Config) *int { return &c.Watch }, 0, api.MaxWatch},
}

// fault is a change that makes a configuration invalid.
type fault struct {
	name string
	make func(c *api.Config)
	want api.Errno
}

// faults are in the order in which Check looks for them.
func faults() []fault {
	l := []fault{
		{"no tenants", func(c *api.Config) { c.Tenants = nil }, api.ErrMany},
		{"seven tenants", func(c *api.Config) {
			c.Tenants = append(c.Tenants, tenants("p", "q", "r", "s", "t", "u", "v")[len(c.Tenants):]...)
		}, api.ErrMany},
		{"tenant 0 without a name", func(c *api.Config) { c.Tenants[0].Name = "" }, api.ErrName},
		{"tenant 0 of weight 0", func(c *api.Config) { c.Tenants[0].Weight = 0 }, api.ErrArg},
		{"tenant 0 of quota 0", func(c *api.Config) { c.Tenants[0].Quota = 0 }, api.ErrArg},
		{"tenant 1 with a name that is none", func(c *api.Config) { c.Tenants[1].Name = "A" }, api.ErrName},
		{"tenant 1 of weight 17", func(c *api.Config) { c.Tenants[1].Weight = 17 }, api.ErrArg},
		{"tenant 1 of quota 257", func(c *api.Config) { c.Tenants[1].Quota = 257 }, api.ErrArg},
		{"tenant 1 with the name of tenant 0", func(c *api.Config) { c.Tenants[1].Name = c.Tenants[0].Name }, api.ErrThere},
		{"tenant 2 with a name that is none", func(c *api.Config) { c.Tenants[2].Name = "*" }, api.ErrName},
		{"tenant 2 of quota -1", func(c *api.Config) { c.Tenants[2].Quota = -1 }, api.ErrArg},
		{"tenant 2 with the name of tenant 0", func(c *api.Config) { c.Tenants[2].Name = c.Tenants[0].Name }, api.ErrThere},
		{"tenant 2 with the name of tenant 1", func(c *api.Config) { c.Tenants[2].Name = c.Tenants[1].Name }, api.ErrThere},
		{"four limits", func(c *api.Config) {
			c.Limits = append(c.Limits, 100, 200, 300, 400)[:api.MaxClasses]
		}, api.ErrMany},
		{"a limit of 0", func(c *api.Config) { c.Limits[0] = 0 }, api.ErrArg},
		{"two equal limits", func(c *api.Config) { c.Limits[1] = c.Limits[0] }, api.ErrArg},
	}
	for _, f := range fields {
		l = append(l,
			fault{f.name + " too small", func(c *api.Config) { *f.of(c) = f.least - 1 }, api.ErrArg},
			fault{f.name + " too great", func(c *api.Config) { *f.of(c) = f.most + 1 }, api.ErrArg})
	}
	return l
}

// expect fails the test unless Check returns want for c, the queries return
// nothing if that is an error, and c stays as it is.
func expect(t *testing.T, name string, c api.Config, want api.Errno) {
	t.Helper()
	before := c
	before.Tenants, before.Limits = slices.Clone(c.Tenants), slices.Clone(c.Limits)
	if e := conf.Check(c); e != want {
		t.Errorf("%s: Check = %d; want %d", name, e, want)
	}
	if want != api.OK {
		expectNothing(t, name, c)
	}
	if !reflect.DeepEqual(c, before) {
		t.Errorf("%s: %v has become %v", name, before, c)
	}
}

// expectNothing fails the test unless all queries return zero values.
func expectNothing(t *testing.T, name string, c api.Config) {
	t.Helper()
	if n := conf.Classes(c); n != 0 {
		t.Errorf("%s: Classes = %d", name, n)
	}
	for _, class := range []int{least, -1, 0, 1, 2, 3, 4, greatest} {
		if n := conf.Limit(c, class); n != 0 {
			t.Errorf("%s: Limit(%d) = %d", name, class, n)
		}
	}
	for _, tenant := range append(tenants("", "a", "b"), c.Tenants...) {
		if i, ok := conf.Tenant(c, tenant.Name); i != 0 || ok {
			t.Errorf("%s: Tenant(%q) = %d, %t", name, tenant.Name, i, ok)
		}
	}
	if n := conf.Attempts(c); n != 0 {
		t.Errorf("%s: Attempts = %d", name, n)
	}
}

// P7.1

func TestCheck(t *testing.T) {
	expect(t, "ordinary", ordinary(), api.OK)
	expect(t, "lowest", lowest(), api.OK)
	expect(t, "highest", highest(), api.OK)
	expect(t, "zero", api.Config{}, api.ErrMany)
}

func TestCheckOfNumbers(t *testing.T) {
	for _, f := range fields {
		for _, v := range []int{
			least, -1, 0, 1, 2, 5, 6, 8, 9, 10, 16, 17, 32, 33, 64, 65, 100, 101, 1 << 20, 1<<20 + 1, greatest,
			f.least - 1, f.least, f.least + 1, f.most - 1, f.most, f.most + 1,
		} {
			c := ordinary()
			*f.of(&c) = v
			want := api.OK
			if v < f.least || v > f.most {
				want = api.ErrArg
			}
			expect(t, f.name, c, want)
		}
	}
}

// No field goes without a check.
func TestFieldsAreAllNumbers(t *testing.T) {
	config := reflect.TypeFor[api.Config]()
	var names []string
	for i := range config.NumField() {
		if config.Field(i).Type.Kind() == reflect.Int {
			names = append(names, config.Field(i).Name)
		}
	}
	var known []string
	for _, f := range fields {
		known = append(known, f.name)
	}
	if !reflect.DeepEqual(names, known) {
		t.Errorf("the numbers of a configuration are %v; the tests know %v", names, known)
	}
}

func TestCheckHoldsMostAgainstBase(t *testing.T) {
	for _, c := range []struct {
		base, most int
		want       api.Errno
	}{
		{1, 1, api.OK},
		{1, 2, api.OK},
		{7, 7, api.OK},
		{7, 8, api.OK},
		{7, 6, api.ErrArg},
		{2, 1, api.ErrArg},
		{1, 0, api.ErrArg},
		{0, 0, api.ErrArg},
		{0, 1, api.ErrArg},
		{-1, -1, api.ErrArg},
		{-2, 1, api.ErrArg},
		{1, 1 << 20, api.OK},
		{1 << 20, 1 << 20, api.OK},
		{1 << 20, 1<<20 - 1, api.ErrArg},
		{1 << 20, 1<<20 + 1, api.ErrArg},
		{1<<20 + 1, 1 << 20, api.ErrArg},
		{1<<20 + 1, 1<<20 + 1, api.ErrArg},
		{least, least, api.ErrArg},
		{least, greatest, api.ErrArg},
		{greatest, greatest, api.ErrArg},
		{greatest, least, api.ErrArg},
	} {
		d := ordinary()
		d.Base, d.Most = c.base, c.most
		expect(t, "Base and Most", d, c.want)
	}
}

func TestCheckCountsTenants(t *testing.T) {
	names := strings.Split("abcdefghij", "")
	for n := range len(names) + 1 {
		c := ordinary()
		c.Tenants = tenants(names[:n]...)
		want := api.OK
		if n == 0 || n > 6 {
			want = api.ErrMany
		}
		expect(t, "some tenants", c, want)
	}
	c := ordinary()
	c.Tenants = []api.Tenant{}
	expect(t, "an empty list of tenants", c, api.ErrMany)
	c.Tenants = make([]api.Tenant, 1000)
	expect(t, "many tenants", c, api.ErrMany)
}

func TestCheckOfTenants(t *testing.T) {
	long := strings.Repeat("я", api.MaxRunes)
	for _, c := range []struct {
		tenant api.Tenant
		want   api.Errno
	}{
		{api.Tenant{Name: "x", Weight: 1, Quota: 1}, api.OK},
		{api.Tenant{Name: "x", Weight: 16, Quota: 256}, api.OK},
		{api.Tenant{Name: "0.9-z", Weight: 2, Quota: 255}, api.OK},
		{api.Tenant{Name: "aa", Weight: 15, Quota: 2}, api.OK},
		{api.Tenant{Name: long, Weight: 1, Quota: 1}, api.OK},
		// No name.
		{api.Tenant{Name: "", Weight: 1, Quota: 1}, api.ErrName},
		{api.Tenant{Name: "A", Weight: 1, Quota: 1}, api.ErrName},
		{api.Tenant{Name: "x y", Weight: 1, Quota: 1}, api.ErrName},
		{api.Tenant{Name: "x\xff", Weight: 1, Quota: 1}, api.ErrName},
		{api.Tenant{Name: long + "a", Weight: 1, Quota: 1}, api.ErrName},
		{api.Tenant{Name: strings.Repeat("a", 1000), Weight: 1, Quota: 1}, api.ErrName},
		{api.Tenant{Name: "", Weight: 0, Quota: 0}, api.ErrName},
		{api.Tenant{Name: "A", Weight: 1, Quota: 257}, api.ErrName},
		{api.Tenant{}, api.ErrName},
		// A number that is not allowed.
		{api.Tenant{Name: "x", Weight: 0, Quota: 1}, api.ErrArg},
		{api.Tenant{Name: "x", Weight: -1, Quota: 1}, api.ErrArg},
		{api.Tenant{Name: "x", Weight: 17, Quota: 1}, api.ErrArg},
		{api.Tenant{Name: "x", Weight: least, Quota: 1}, api.ErrArg},
		{api.Tenant{Name: "x", Weight: greatest, Quota: 1}, api.ErrArg},
		{api.Tenant{Name: "x", Weight: 1, Quota: 0}, api.ErrArg},
		{api.Tenant{Name: "x", Weight: 1, Quota: -1}, api.ErrArg},
		{api.Tenant{Name: "x", Weight: 1, Quota: 257}, api.ErrArg},
		{api.Tenant{Name: "x", Weight: 1, Quota: least}, api.ErrArg},
		{api.Tenant{Name: "x", Weight: 1, Quota: greatest}, api.ErrArg},
		// The name of a tenant that comes before it.
		{api.Tenant{Name: "b", Weight: 0, Quota: 1}, api.ErrArg},
		{api.Tenant{Name: "b", Weight: 1, Quota: 257}, api.ErrArg},
		{api.Tenant{Name: "b", Weight: 1, Quota: 1}, api.ErrThere},
	} {
		others := tenants("b", "c", "d", "e", "f")
		for n := range others {
			d := ordinary()
			d.Tenants = append(slices.Clone(others[:n+1]), c.tenant)
			expect(t, "last "+c.tenant.Name, d, c.want)
		}
		d := ordinary()
		d.Tenants = []api.Tenant{c.tenant, {Name: "c", Weight: 1, Quota: 1}}
		want := c.want
		if want == api.ErrThere {
			want = api.OK
		}
		expect(t, "first "+c.tenant.Name, d, want)
	}
}

// Every two tenants need to have different names, wherever they are.
func TestCheckHoldsNamesAgainstEachOther(t *testing.T) {
	for n := 2; n <= 6; n++ {
		for second := range n {
			for first := range second {
				c := ordinary()
				c.Tenants = tenants(strings.Split("abcdef", "")[:n]...)
				expect(t, "different names", c, api.OK)
				c.Tenants[second].Name = c.Tenants[first].Name
				expect(t, "same names", c, api.ErrThere)
				c.Tenants[second].Name += "-"
				expect(t, "almost the same names", c, api.OK)
			}
		}
	}
}

func TestCheckOfLimits(t *testing.T) {
	for _, c := range []struct {
		limits []int
		want   api.Errno
	}{
		{nil, api.OK},
		{[]int{}, api.OK},
		{[]int{1}, api.OK},
		{[]int{1 << 20}, api.OK},
		{[]int{1, 2}, api.OK},
		{[]int{1, 1 << 20}, api.OK},
		{[]int{1, 2, 3}, api.OK},
		{[]int{1, 100, 1 << 20}, api.OK},
		// Not from 1 to MaxTicks.
		{[]int{0}, api.ErrArg},
		{[]int{-1}, api.ErrArg},
		{[]int{least}, api.ErrArg},
		{[]int{1<<20 + 1}, api.ErrArg},
		{[]int{greatest}, api.ErrArg},
		{[]int{0, 1}, api.ErrArg},
		{[]int{-1, 1, 2}, api.ErrArg},
		{[]int{1, 1<<20 + 1}, api.ErrArg},
		{[]int{1, 2, 1<<20 + 1}, api.ErrArg},
		{[]int{1, 2, greatest}, api.ErrArg},
		// Not strictly increasing.
		{[]int{3, 3}, api.ErrArg},
		{[]int{3, 2}, api.ErrArg},
		{[]int{3, 0}, api.ErrArg},
		{[]int{3, -4}, api.ErrArg},
		{[]int{1, 1, 2}, api.ErrArg},
		{[]int{1, 2, 2}, api.ErrArg},
		{[]int{2, 1, 3}, api.ErrArg},
		{[]int{2, 3, 1}, api.ErrArg},
		{[]int{2, 3, 2}, api.ErrArg},
		{[]int{1, 3, 2}, api.ErrArg},
		{[]int{3, 2, 1}, api.ErrArg},
		// Too many, whatever they are.
		{[]int{1, 2, 3, 4}, api.ErrMany},
		{[]int{0, 0, 0, 0}, api.ErrMany},
		{[]int{4, 3, 2, 1}, api.ErrMany},
		{[]int{1, 2, 3, 4, 5}, api.ErrMany},
		{make([]int, 1000), api.ErrMany},
	} {
		d := ordinary()
		d.Limits = c.limits
		expect(t, "limits", d, c.want)
	}
}

// Of several errors, the first one is returned.
func TestCheckReturnsFirstError(t *testing.T) {
	list := faults()
	for i, f := range list {
		c := ordinary()
		f.make(&c)
		expect(t, f.name, c, f.want)
		for _, later := range list[i+1:] {
			c := ordinary()
			later.make(&c)
			f.make(&c)
			expect(t, f.name+", "+later.name, c, f.want)
		}
	}
}

// P7.2

func TestClasses(t *testing.T) {
	limits := []int{2, 3, 5}
	for n := range len(limits) + 1 {
		c := ordinary()
		c.Limits = limits[:n]
		if got := conf.Classes(c); got != n+1 {
			t.Errorf("Classes with Limits %v = %d; want %d", c.Limits, got, n+1)
		}
	}
}

func TestLimit(t *testing.T) {
	limits := []int{2, 3, 1 << 20}
	for n := range len(limits) + 1 {
		c := ordinary()
		c.Limits = limits[:n]
		for _, class := range []int{least, -2, -1, 0, 1, 2, 3, 4, 5, 1 << 32, greatest} {
			want := 0
			if class >= 0 && class < n {
				want = limits[class]
			}
			if got := conf.Limit(c, class); got != want {
				t.Errorf("Limit(%d) with Limits %v = %d; want %d", class, c.Limits, got, want)
			}
		}
	}
}

func TestTenant(t *testing.T) {
	c := highest()
	c.Tenants = tenants("b", "a", "ab", "ö", "0", "b-")
	for i, tenant := range c.Tenants {
		if got, ok := conf.Tenant(c, tenant.Name); got != i || !ok {
			t.Errorf("Tenant(%q) = %d, %t; want %d", tenant.Name, got, ok, i)
		}
	}
	for _, name := range []string{"", "c", "B", "ba", "a-", "aba", "Ö", "o", "*", "\xff", " b", "b ", "\x00", "1"} {
		if got, ok := conf.Tenant(c, name); got != 0 || ok {
			t.Errorf("Tenant(%q) = %d, %t; want none", name, got, ok)
		}
	}
}

func TestAttempts(t *testing.T) {
	for retries := range 6 {
		for preempts := range 6 {
			c := ordinary()
			c.Retries, c.Preempts = retries, preempts
			if got := conf.Attempts(c); got != 1+retries+preempts {
				t.Errorf("Attempts with %d retries and %d preemptions = %d", retries, preempts, got)
			}
		}
	}
}

// expect asks the queries of each invalid configuration above; the one here
// differs as little as possible from one with the most to return.
func TestQueriesOfInvalid(t *testing.T) {
	for _, f := range faults() {
		c := highest()
		f.make(&c)
		expect(t, f.name, c, f.want)
	}
	expectNothing(t, "zero", api.Config{})
}

func TestExample(t *testing.T) {
	c := ordinary()
	c.Tenants, c.Limits = tenants("a"), nil
	if classes, limit := conf.Classes(c), conf.Limit(c, 0); classes != 1 || limit != 0 {
		t.Errorf("%d classes, limit %d; want 1 class without a limit", classes, limit)
	}
}
