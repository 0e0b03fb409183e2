package prop_test

import (
	"slices"
	"strings"
	"testing"

	"billet/api"
	"billet/prop"
)

// long is a name of as many runes as a name may have, and of more bytes.
var long = strings.Repeat("ö", api.MaxRunes)

// platforms are ordinary platforms and those at the edges of what is one.
var platforms = []string{
	"", "a=1", "a=*", "a=2", "b=1", "b=*", "a=1,b=1", "b=1,a=1", "a=*,b=1", "b=*,a=*", "a=2,b=*,c=3",
	"os=linux,arch=x-64", "arch=x-64,gpu=*,os=linux", "-=.,.=-", "a=a", "a=b,b=a", "aa=1,a=2", "a=2,a-=1,a.=3",
	"ä=þ,z=1", "z=1,ä=σ", "ж=*,ω=я,a=0", long + "=" + long, "a=1,b=2,c=3,d=4,e=5,f=6", "f=*,e=5,d=*,c=3,b=*,a=1",
	"f=6,e=5,d=4,c=3,b=2,a=1",
}

// noPlatforms are strings that are none, with the errors that they have.
var noPlatforms = []struct {
	s    string
	want api.Errno
}{
	// Not exactly one =.
	{"a", api.ErrForm},
	{"*", api.ErrForm},
	{" ", api.ErrForm},
	{"\xff", api.ErrForm},
	{"A", api.ErrForm},
	{"==", api.ErrForm},
	{"a==b", api.ErrForm},
	{"a=b=", api.ErrForm},
	{"=a=b", api.ErrForm},
	{"A=b=c", api.ErrForm},
	{"a=b=*", api.ErrForm},
	{"a:b", api.ErrForm},
	// An empty property has no =.
	{",", api.ErrForm},
	{",a=1", api.ErrForm},
	{"a=1,", api.ErrForm},
	{"a=1,,b=1", api.ErrForm},
	{",,,,,", api.ErrForm},
	{"a=1,b=1,c=1,d=1,e=1,", api.ErrForm},
	// A key or a value that is not allowed.
	{"=", api.ErrName},
	{"a=", api.ErrName},
	{"=a", api.ErrName},
	{"=*", api.ErrName},
	{"*=a", api.ErrName},
	{"*=*", api.ErrName},
	{"A=b", api.ErrName},
	{"a=B", api.ErrName},
	{"a b=c", api.ErrName},
	{"a=b c", api.ErrName},
	{" a=b", api.ErrName},
	{"a=b ", api.ErrName},
	{"a=1, b=1", api.ErrName},
	{"a=**", api.ErrName},
	{"a=b*", api.ErrName},
	{"a=*b", api.ErrName},
	{"a*=b", api.ErrName},
	{"a;b=c", api.ErrName},
	{"a=b;c", api.ErrName},
	{"a=\xff", api.ErrName},
	{"\xc3=a", api.ErrName},
	{"a=\x00", api.ErrName},
	{"a=b\n", api.ErrName},
	{"ß=ÿ", api.ErrName},
	{long + "a=b", api.ErrName},
	{"b=" + long + "a", api.ErrName},
	{"a=1,B=1", api.ErrName},
	{"a=1,b=", api.ErrName},
	// A key twice, whatever the values.
	{"a=1,a=1", api.ErrThere},
	{"a=1,a=2", api.ErrThere},
	{"a=1,a=*", api.ErrThere},
	{"a=*,a=*", api.ErrThere},
	{"a=1,b=1,a=1", api.ErrThere},
	{"a=1,b=1,b=1", api.ErrThere},
	{"a=1,b=1,c=1,d=1,e=1,a=1", api.ErrThere},
	{"a=1,b=1,c=1,d=1,e=1,e=1", api.ErrThere},
	{"ж=1,ж=2", api.ErrThere},
	// Too many, before any other error.
	{",,,,,,", api.ErrMany},
	{"a=1,b=1,c=1,d=1,e=1,f=1,", api.ErrMany},
	{"a=1,b=1,c=1,d=1,e=1,f=1,g=1", api.ErrMany},
	{"a=1,a=1,a=1,a=1,a=1,a=1,a=1", api.ErrMany},
	{"a,b,c,d,e,f,g", api.ErrMany},
	{"A=1,,=,a=b=c,a=1,a=1,g=1", api.ErrMany},
	{strings.Repeat("a=1,", 1000), api.ErrMany},
	{strings.Repeat(",", 1<<20), api.ErrMany},
	// The first property that has an error, though a later one has an error
	// that comes earlier in the list of errors.
	{"A=1,b", api.ErrName},
	{"a=1,a=1,b", api.ErrThere},
	{"a=1,a=1,B=1", api.ErrThere},
	{"b,A=1", api.ErrForm},
	{"b,a=1,a=1", api.ErrForm},
	{"a=1,B=1,a=1", api.ErrName},
	// The first error of one property.
	{"a=1,a=1=1", api.ErrForm},
	{"a=1,a=B", api.ErrName},
	{"a=1,a", api.ErrForm},
	{"a=1,a=", api.ErrName},
	{"A=1,A=1", api.ErrName},
}

// small calls f with each string of up to n of the letters.
func small(letters string, n int, f func(s string)) {
	f("")
	if n == 0 {
		return
	}
	for _, r := range letters {
		small(letters, n-1, func(s string) { f(string(r) + s) })
	}
}

// plain parses a string of the letters a, b, A, *, = and the comma byte by
// byte, as P4.1 says.
func plain(s string) ([]api.Pair, api.Errno) {
	if s == "" {
		return nil, api.OK
	}
	var l []api.Pair
	commas := 0
	for i := range len(s) {
		if s[i] == ',' {
			commas++
		}
	}
	if commas > 5 {
		return nil, api.ErrMany
	}
	for begin := 0; begin <= len(s); {
		end, equal, equals := begin, 0, 0
		for end < len(s) && s[end] != ',' {
			if s[end] == '=' {
				equal = end
				equals++
			}
			end++
		}
		if equals != 1 {
			return nil, api.ErrForm
		}
		key, value := s[begin:equal], s[equal+1:end]
		if !letters(key) || value != "*" && !letters(value) {
			return nil, api.ErrName
		}
		for _, p := range l {
			if p.Key == key {
				return nil, api.ErrThere
			}
		}
		l = append(l, api.Pair{Key: key, Value: value})
		begin = end + 1
	}
	return l, api.OK
}

// letters reports whether s consists of the letters a and b.
func letters(s string) bool {
	return s != "" && strings.Trim(s, "ab") == ""
}

// orders calls f with the properties of s in each of their orders.
func orders(s string, f func(s string)) {
	order(strings.Split(s, ","), nil, f)
}

func order(left, done []string, f func(s string)) {
	if len(left) == 0 {
		f(strings.Join(done, ","))
	}
	for i := range left {
		rest := slices.Delete(slices.Clone(left), i, i+1)
		order(rest, append(slices.Clone(done), left[i]), f)
	}
}

// P4.1

func TestParse(t *testing.T) {
	for _, c := range []struct {
		s    string
		want []api.Pair
	}{
		{"", nil},
		{"a=b", []api.Pair{{Key: "a", Value: "b"}}},
		{"a=*", []api.Pair{{Key: "a", Value: "*"}}},
		{"a=a", []api.Pair{{Key: "a", Value: "a"}}},
		{"-=.", []api.Pair{{Key: "-", Value: "."}}},
		{"b=1,a=*", []api.Pair{{Key: "b", Value: "1"}, {Key: "a", Value: "*"}}},
		{"os=a,arch=b", []api.Pair{{Key: "os", Value: "a"}, {Key: "arch", Value: "b"}}},
		{"b=c,a=c,c=a", []api.Pair{{Key: "b", Value: "c"}, {Key: "a", Value: "c"}, {Key: "c", Value: "a"}}},
		{"gpu=*,ж=äσя", []api.Pair{{Key: "gpu", Value: "*"}, {Key: "ж", Value: "äσя"}}},
		{long + "=" + long, []api.Pair{{Key: long, Value: long}}},
		{"f=1,e=2,d=*,c=4,b=5,a=1", []api.Pair{
			{Key: "f", Value: "1"}, {Key: "e", Value: "2"}, {Key: "d", Value: "*"},
			{Key: "c", Value: "4"}, {Key: "b", Value: "5"}, {Key: "a", Value: "1"},
		}},
	} {
		if l, e := prop.Parse(c.s); e != api.OK || !slices.Equal(l, c.want) {
			t.Errorf("Parse(%q) = %q, %d; want %q", c.s, l, e, c.want)
		}
	}
}

func TestParseErrors(t *testing.T) {
	for _, c := range noPlatforms {
		if l, e := prop.Parse(c.s); e != c.want || len(l) != 0 {
			t.Errorf("Parse(%.80q) = %q, %d; want %d", c.s, l, e, c.want)
		}
	}
}

func TestParseSmall(t *testing.T) {
	seen := map[api.Errno]int{}
	small("abA*=,", 7, func(s string) {
		want, wantErr := plain(s)
		l, e := prop.Parse(s)
		if e != wantErr || !slices.Equal(l, want) {
			t.Fatalf("Parse(%q) = %q, %d; want %q, %d", s, l, e, want, wantErr)
		}
		seen[e]++
	})
	for _, e := range []api.Errno{api.OK, api.ErrForm, api.ErrName, api.ErrThere, api.ErrMany} {
		if seen[e] == 0 {
			t.Errorf("no string had the error %d", e)
		}
	}
}

// Lists of two calls share nothing.
func TestParseReturnsNewLists(t *testing.T) {
	first, _ := prop.Parse("a=1,b=2")
	first[0] = api.Pair{Key: "x", Value: "y"}
	second, _ := prop.Parse("a=1,b=2")
	if prop.Show(second) != "a=1,b=2" {
		t.Errorf("the second list is %q", second)
	}
}

func TestShow(t *testing.T) {
	for _, c := range []struct {
		l    []api.Pair
		want string
	}{
		{nil, ""},
		{[]api.Pair{}, ""},
		{[]api.Pair{{Key: "a", Value: "b"}}, "a=b"},
		{[]api.Pair{{Key: "b", Value: "1"}, {Key: "a", Value: "*"}}, "b=1,a=*"},
		// What it shows need not be a platform.
		{[]api.Pair{{}}, "="},
		{[]api.Pair{{}, {}}, "=,="},
		{[]api.Pair{{Key: "A,", Value: "="}, {Key: "\xff"}, {Value: "x y"}}, "A,==,\xff=,=x y"},
		{slices.Repeat([]api.Pair{{Key: "a", Value: "b"}}, 8), "a=b,a=b,a=b,a=b,a=b,a=b,a=b,a=b"},
	} {
		l := slices.Clone(c.l)
		if s := prop.Show(c.l); s != c.want {
			t.Errorf("Show(%q) = %q; want %q", c.l, s, c.want)
		}
		if !slices.Equal(l, c.l) {
			t.Errorf("Show changed %q to %q", l, c.l)
		}
	}
}

func TestShowOfParseIsThePlatform(t *testing.T) {
	for _, s := range platforms {
		l, e := prop.Parse(s)
		if e != api.OK || prop.Show(l) != s {
			t.Errorf("Show(Parse(%q)) = %q, %d", s, prop.Show(l), e)
		}
	}
}

// P4.2

func TestCanon(t *testing.T) {
	for _, c := range []struct{ s, want string }{
		{"", ""},
		{"a=b", "a=b"},
		{"os=a,arch=b", "arch=b,os=a"},
		{"b=1,a=*", "a=*,b=1"},
		{"a=*,b=1", "a=*,b=1"},
		{"c=1,a=3,b=2", "a=3,b=2,c=1"},
		{"f=1,e=2,d=3,c=4,b=5,a=6", "a=6,b=5,c=4,d=3,e=2,f=1"},
		// By the keys, not by the properties as strings: - and . come before =.
		{"a-=1,a=2", "a=2,a-=1"},
		{"a.=1,a=2,a-=3", "a=2,a-=3,a.=1"},
		{"a0=1,a=2,aa=3", "a=2,a0=1,aa=3"},
		// Byte by byte, not by the alphabet or by length.
		{"ä=1,z=2", "z=2,ä=1"},
		{"я=1,ω=2,þ=3,z=4,0=5,-=6", "-=6,0=5,z=4,þ=3,ω=2,я=1"},
		{"10=1,9=2", "10=1,9=2"},
		{"b=1,aa=2", "aa=2,b=1"},
	} {
		if s, e := prop.Canon(c.s); e != api.OK || s != c.want {
			t.Errorf("Canon(%q) = %q, %d; want %q", c.s, s, e, c.want)
		}
	}
}

func TestCanonErrors(t *testing.T) {
	for _, c := range noPlatforms {
		if s, e := prop.Canon(c.s); e != c.want || s != "" {
			t.Errorf("Canon(%.80q) = %q, %d; want %d", c.s, s, e, c.want)
		}
	}
}

func TestMatch(t *testing.T) {
	for _, c := range []struct {
		platform, need string
		want           bool
	}{
		{"", "", true},
		{"a=1", "", true},
		{"", "a=1", false},
		{"", "a=*", false},
		{"a=1", "a=1", true},
		{"a=1", "a=2", false},
		{"a=1", "b=1", false},
		{"a=1", "b=*", false},
		{"a=*", "b=1", false},
		{"a=1", "a=*", true},
		{"a=*", "a=1", true},
		{"a=*", "a=*", true},
		{"os=a,gpu=*", "gpu=x", true},
		{"a=1,b=2", "b=2", true},
		{"a=1,b=2", "b=1", false},
		{"a=1,b=2", "a=1,b=2", true},
		{"a=1,b=2", "b=2,a=1", true},
		{"a=1,b=2", "a=1,b=1", false},
		{"a=1,b=2", "a=2,b=2", false},
		{"b=2", "a=1,b=2", false},
		{"a=1", "a=1,b=2", false},
		{"a=1", "a=1,b=*", false},
		{"a=*,b=*", "b=1,a=2", true},
		{"a=1,b=2,c=3", "a=*,c=*", true},
		{"a=1,b=2,c=3,d=4,e=5,f=6", "f=6,e=5,d=4,c=3,b=2,a=1", true},
		{"a=1,b=2,c=3,d=4,e=5,f=6", "f=6,e=5,d=4,c=3,b=2,a=7", false},
		// Keys and values are told apart, and are the same only as a whole.
		{"a=b", "b=a", false},
		{"a=1", "a=11", false},
		{"a=11", "a=1", false},
		{"aa=1", "a=1", false},
		{"a=1", "aa=1", false},
		{"a=ä", "a=a", false},
	} {
		if got := prop.Match(c.platform, c.need); got != c.want {
			t.Errorf("Match(%q, %q) = %t", c.platform, c.need, got)
		}
	}
}

func TestMatchOfNoPlatforms(t *testing.T) {
	for _, c := range noPlatforms {
		for _, s := range append(slices.Clone(platforms), c.s) {
			if prop.Match(s, c.s) || prop.Match(c.s, s) {
				t.Errorf("%.80q, which is no platform, matches %q", c.s, s)
			}
		}
	}
}

// matches is what Match should return for two lists of pairs.
func matches(offers, needs []api.Pair) bool {
	for _, n := range needs {
		has := slices.ContainsFunc(offers, func(o api.Pair) bool {
			return o.Key == n.Key && (o.Value == n.Value || o.Value == "*" || n.Value == "*")
		})
		if !has {
			return false
		}
	}
	return true
}

func TestMatchOfAllPairs(t *testing.T) {
	l := slices.Clone(platforms)
	small("ab*=,", 7, func(s string) {
		if _, e := plain(s); e == api.OK {
			l = append(l, s)
		}
	})
	for _, platform := range l {
		offers, _ := prop.Parse(platform)
		for _, need := range l {
			needs, _ := prop.Parse(need)
			if want := matches(offers, needs); prop.Match(platform, need) != want {
				t.Fatalf("Match(%q, %q) = %t", platform, need, !want)
			}
		}
	}
}

// P4.3

func TestCanonIsIdempotent(t *testing.T) {
	for _, s := range platforms {
		once, e := prop.Canon(s)
		if e != api.OK {
			t.Errorf("Canon(%q) has the error %d", s, e)
		}
		if twice, e := prop.Canon(once); e != api.OK || twice != once {
			t.Errorf("Canon(%q) = %q, whose Canon is %q, %d", s, once, twice, e)
		}
	}
}

func TestOrderDoesNotAffectCanon(t *testing.T) {
	for _, s := range platforms {
		want, _ := prop.Canon(s)
		orders(s, func(other string) {
			if c, e := prop.Canon(other); e != api.OK || c != want {
				t.Errorf("Canon(%q) = %q, %d; Canon(%q) = %q", other, c, e, s, want)
			}
		})
	}
}

func TestOrderDoesNotAffectMatch(t *testing.T) {
	for _, platform := range platforms {
		for _, need := range platforms {
			want := prop.Match(platform, need)
			orders(platform, func(other string) {
				if prop.Match(other, need) != want {
					t.Errorf("Match(%q, %q) = %t, unlike that of %q", other, need, !want, platform)
				}
			})
			orders(need, func(other string) {
				if prop.Match(platform, other) != want {
					t.Errorf("Match(%q, %q) = %t, unlike that of %q", platform, other, !want, need)
				}
			})
		}
	}
}
