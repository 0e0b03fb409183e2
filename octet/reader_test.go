package octet_test

import (
	"math"
	"strings"
	"testing"

	"billet/api"
	"billet/octet"
)

// P1.4

// expect fails the test unless the reader's error, rest and end are these.
func expect(t *testing.T, r *octet.Reader, err api.Errno, rest string, end api.Errno) {
	t.Helper()
	if r.Err() != err || r.Rest() != rest || r.End() != end {
		t.Errorf("error %d, rest %q, end %d; want %d, %q, %d", r.Err(), r.Rest(), r.End(), err, rest, end)
	}
}

// expectStopped fails the test unless each read returns nothing and leaves the
// reader as it is.
func expectStopped(t *testing.T, r *octet.Reader) {
	t.Helper()
	err, rest, end := r.Err(), r.Rest(), r.End()
	for range 2 {
		if v := r.Int(math.MaxInt); v != 0 {
			t.Errorf("Int = %d", v)
		}
		if v := r.Num(); v != 0 {
			t.Errorf("Num = %d", v)
		}
		if v := r.Str(math.MaxInt); v != "" {
			t.Errorf("Str = %q", v)
		}
		if r.Flag() {
			t.Error("Flag = true")
		}
		expect(t, r, err, rest, end)
	}
}

func TestReaderReadsInOrder(t *testing.T) {
	s := octet.Chain(300) + octet.Text("ab") + octet.Chain(1) + octet.Chain(0) + octet.Chain(highest) + octet.Text("") + octet.Chain(0)
	r := octet.New(s)
	expect(t, r, api.OK, s, api.ErrForm)
	if v := r.Int(300); v != 300 {
		t.Errorf("Int = %d", v)
	}
	expect(t, r, api.OK, s[2:], api.ErrForm)
	if v := r.Str(2); v != "ab" {
		t.Errorf("Str = %q", v)
	}
	expect(t, r, api.OK, s[5:], api.ErrForm)
	if !r.Flag() {
		t.Error("Flag of 1 is false")
	}
	if r.Flag() {
		t.Error("Flag of 0 is true")
	}
	expect(t, r, api.OK, s[7:], api.ErrForm)
	if v := r.Num(); v != highest {
		t.Errorf("Num = %d", v)
	}
	expect(t, r, api.OK, s[17:], api.ErrForm)
	if v := r.Str(0); v != "" {
		t.Errorf("Str = %q", v)
	}
	expect(t, r, api.OK, s[18:], api.ErrForm)
	if v := r.Int(0); v != 0 {
		t.Errorf("Int = %d", v)
	}
	expect(t, r, api.OK, "", api.OK)
}

func TestReaderOfNothing(t *testing.T) {
	r := octet.New("")
	expect(t, r, api.OK, "", api.OK)
	r.Num()
	expect(t, r, api.ErrShort, "", api.ErrShort)
	expectStopped(t, r)
}

func TestReaderInt(t *testing.T) {
	for _, c := range []struct {
		s    string
		most int
		v    int
		want api.Errno
	}{
		{"\x05", 5, 5, api.OK},
		{"\x05", math.MaxInt, 5, api.OK},
		{octet.Chain(math.MaxInt), math.MaxInt, math.MaxInt, api.OK},
		{"\x05", 4, 0, api.ErrLong},
		{"\x05", 0, 0, api.ErrLong},
		{"\x05", -1, 0, api.ErrLong},
		{"\x00", -1, 0, api.ErrLong},
		{"\x00", math.MinInt, 0, api.ErrLong},
		{octet.Chain(1 << 63), math.MaxInt, 0, api.ErrLong},
		{octet.Chain(highest), math.MaxInt, 0, api.ErrLong},
		{"", 5, 0, api.ErrShort},
		{"\x80", 5, 0, api.ErrShort},
		{"\x80", -1, 0, api.ErrShort},
		{"\x85\x00", 5, 0, api.ErrForm},
		{"\x85\x00", -1, 0, api.ErrForm},
	} {
		r := octet.New(c.s)
		if v := r.Int(c.most); v != c.v || r.Err() != c.want {
			t.Errorf("Int(%d) of %q = %d, error %d; want %d, %d", c.most, c.s, v, r.Err(), c.v, c.want)
		}
	}
}

func TestReaderNum(t *testing.T) {
	for _, c := range []struct {
		s    string
		v    uint64
		want api.Errno
	}{
		{"\x00", 0, api.OK},
		{octet.Chain(1 << 63), 1 << 63, api.OK},
		{octet.Chain(highest), highest, api.OK},
		{"", 0, api.ErrShort},
		{"\xff", 0, api.ErrShort},
		{"\xff\x00", 0, api.ErrForm},
		{strings.Repeat("\xff", 10), 0, api.ErrForm},
	} {
		r := octet.New(c.s)
		if v := r.Num(); v != c.v || r.Err() != c.want {
			t.Errorf("Num of %q = %d, error %d; want %d, %d", c.s, v, r.Err(), c.v, c.want)
		}
	}
}

func TestReaderStr(t *testing.T) {
	for _, c := range []struct {
		s    string
		most int
		v    string
		want api.Errno
	}{
		{"\x02ab", 2, "ab", api.OK},
		{"\x02abc", 9, "ab", api.OK},
		{"\x00", 0, "", api.OK},
		{"", 9, "", api.ErrShort},
		{"\x80\x00", 9, "", api.ErrForm},
		{"\x02ab", 1, "", api.ErrLong},
		{"\x02a", 1, "", api.ErrLong},
		{"\x00", -1, "", api.ErrLong},
		{"\x02a", 2, "", api.ErrShort},
	} {
		r := octet.New(c.s)
		if v := r.Str(c.most); v != c.v || r.Err() != c.want {
			t.Errorf("Str(%d) of %q = %q, error %d; want %q, %d", c.most, c.s, v, r.Err(), c.v, c.want)
		}
	}
}

func TestReaderFlag(t *testing.T) {
	for _, c := range []struct {
		s    string
		v    bool
		want api.Errno
	}{
		{"\x00", false, api.OK},
		{"\x01", true, api.OK},
		{"\x02", false, api.ErrForm},
		{"\x7f", false, api.ErrForm},
		{"\x81\x01", false, api.ErrForm},
		{octet.Chain(highest), false, api.ErrForm},
		{"\x81\x00", false, api.ErrForm},
		{"", false, api.ErrShort},
		{"\x81", false, api.ErrShort},
	} {
		r := octet.New(c.s)
		if v := r.Flag(); v != c.v || r.Err() != c.want {
			t.Errorf("Flag of %q = %t, error %d; want %t, %d", c.s, v, r.Err(), c.v, c.want)
		}
	}
}

// After the first failure a reader stands still, although what lies before it
// could be read in another way.
func TestReaderStopsAtFirstError(t *testing.T) {
	for _, c := range []struct {
		name string
		read func(r *octet.Reader)
		s    string
		want api.Errno
	}{
		{"Int", func(r *octet.Reader) { r.Int(1) }, "\x03abc", api.ErrLong},
		{"Num", func(r *octet.Reader) { r.Num() }, "\x80\x00\x01", api.ErrForm},
		{"Str", func(r *octet.Reader) { r.Str(2) }, "\x03abc", api.ErrLong},
		{"Str", func(r *octet.Reader) { r.Str(9) }, "\x04abc", api.ErrShort},
		{"Flag", func(r *octet.Reader) { r.Flag() }, "\x03abc", api.ErrForm},
	} {
		t.Run(c.name, func(t *testing.T) {
			r := octet.New("\x07" + c.s)
			r.Num()
			c.read(r)
			expect(t, r, c.want, c.s, c.want)
			expectStopped(t, r)
		})
	}
}

func TestReaderKeepsFirstError(t *testing.T) {
	r := octet.New("\x02\x80\x00")
	r.Flag()
	r.Int(1)
	r.Str(0)
	expect(t, r, api.ErrForm, "\x02\x80\x00", api.ErrForm)
}

// End asks; it does not read, so a reader can go on after it.
func TestReaderGoesOnAfterEnd(t *testing.T) {
	r := octet.New("\x05")
	if err := r.End(); err != api.ErrForm {
		t.Errorf("End = %d", err)
	}
	if v := r.Int(5); v != 5 || r.End() != api.OK {
		t.Errorf("Int after End = %d, end %d", v, r.End())
	}
}

func TestReadersAreApart(t *testing.T) {
	a, b := octet.New("\x01\x02"), octet.New("\x01\x02")
	a.Num()
	a.Flag()
	expect(t, b, api.OK, "\x01\x02", api.ErrForm)
}

func TestNilReader(t *testing.T) {
	var r *octet.Reader
	expect(t, r, api.ErrArg, "", api.ErrArg)
	expectStopped(t, r)
}
