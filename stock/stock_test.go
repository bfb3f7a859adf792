package stock_test

import (
	"errors"
	"fmt"
	"math/rand"
	"slices"
	"strings"
	"testing"

	"tithebarn/api"
	"tithebarn/place"
	"tithebarn/stock"
)

const (
	least = -1 << 63
	most  = 1<<63 - 1
)

func at(zone string, row, bay int) api.Place {
	return api.Place{Zone: zone, Row: row, Bay: bay}
}

// bay number k of the barn's end: where the lines go that make a stock full.
func bay(k int) api.Place {
	return at("z", 1+k/api.MaxBay, 1+k%api.MaxBay)
}

// of a text, which must be well.
func of(t *testing.T, text string) *stock.Stock {
	t.Helper()
	s, err := stock.Read(text)
	if err != nil {
		t.Fatalf("Read(%q): %v", text, err)
	}
	return s
}

// full: as many lines as there may be, of two pieces each, and those of lot l1 first.
func full(t *testing.T) *stock.Stock {
	t.Helper()
	s := of(t, "a-1-1 l1 2\na-1-2 l1 2\n")
	for k := range api.MaxLines - 2 {
		if err := s.Put(bay(k), "l2", 2); err != nil {
			t.Fatal(k, err)
		}
	}
	return s
}

// unchanged: a call that answers an error leaves no trace.
func unchanged(t *testing.T, s *stock.Stock, want error, call func() error) {
	t.Helper()
	text := s.Text()
	if err := call(); err != want {
		t.Errorf("%v, not %v", err, want)
	}
	if s.Text() != text {
		t.Errorf("%q was %q", s.Text(), text)
	}
}

// P40: pieces come, go and move

func TestPut(t *testing.T) {
	s := stock.New()
	for _, c := range []struct {
		p           api.Place
		lot         string
		n           int
		there, ofIt int
	}{
		{at("a", 1, 1), "l1", 1, 1, 1},
		{at("a", 1, 1), "l1", 4, 5, 5},
		{at("a", 1, 2), "l1", 3, 3, 8},
		{at("a", 1, 1), "l2", 7, 7, 7},
		{at("abcdefg9", api.MaxRow, api.MaxBay), "abcdefg9", api.MaxQty, api.MaxQty, api.MaxQty},
		{at("0", 1, 1), "0", api.MaxQty - 1, api.MaxQty - 1, api.MaxQty - 1},
		{at("0", 1, 1), "0", 1, api.MaxQty, api.MaxQty},
	} {
		if err := s.Put(c.p, c.lot, c.n); err != nil {
			t.Errorf("%+v: %v", c, err)
		}
		if there, all := s.At(c.p, c.lot), s.Of(c.lot); there != c.there || all != c.ofIt {
			t.Errorf("%+v: %d there, %d of it", c, there, all)
		}
	}
	if text := s.Text(); text != "0-1-1 0 1099511627776\na-1-1 l1 5\na-1-1 l2 7\na-1-2 l1 3\nabcdefg9-20-40 abcdefg9 1099511627776\n" {
		t.Errorf("%q", text)
	}
}

func TestPutErrors(t *testing.T) {
	a := at("a", 1, 1)
	s := of(t, "a-1-1 l1 5\na-1-2 l1 3\nb-1-1 l9 1099511627776\n")
	for _, c := range []struct {
		p    api.Place
		lot  string
		n    int
		want error
	}{
		{api.Place{}, "l1", 1, api.ErrName},
		{at("A", 1, 1), "l1", 1, api.ErrName},
		{at("abcdefghi", 1, 1), "l1", 1, api.ErrName},
		{at("a", 0, 1), "l1", 1, api.ErrBound},
		{at("a", api.MaxRow+1, 1), "l1", 1, api.ErrBound},
		{at("a", 1, 0), "l1", 1, api.ErrBound},
		{at("a", 1, api.MaxBay+1), "l1", 1, api.ErrBound},
		{at("a", least, most), "l1", 1, api.ErrBound},
		{a, "", 1, api.ErrName},
		{a, "L1", 1, api.ErrName},
		{a, "l 1", 1, api.ErrName},
		{a, "l1\n", 1, api.ErrName},
		{a, "abcdefghi", 1, api.ErrName},
		{a, "\xff", 1, api.ErrName},
		{a, "l1", 0, api.ErrBound},
		{a, "l1", -1, api.ErrBound},
		{a, "l1", api.MaxQty + 1, api.ErrBound},
		{a, "l3", api.MaxQty + 1, api.ErrBound},
		{a, "l1", least, api.ErrBound},
		{a, "l1", most, api.ErrBound},
		// More than there may be of the lot: at its place, at another one of its places, at a new one.
		{a, "l1", api.MaxQty - 7, api.ErrBound},
		{at("a", 1, 2), "l1", api.MaxQty - 7, api.ErrBound},
		{at("a", 1, 3), "l1", api.MaxQty - 7, api.ErrBound},
		{at("a", 1, 3), "l9", 1, api.ErrBound},
		{at("b", 1, 1), "l9", 1, api.ErrBound},
		// The place is told ahead of the lot, the lot ahead of the number.
		{at("a", 0, 1), "", 0, api.ErrBound},
		{at("", 1, 1), "l1", 0, api.ErrName},
		{a, "", 0, api.ErrName},
		{a, "L1", most, api.ErrName},
	} {
		unchanged(t, s, c.want, func() error { return s.Put(c.p, c.lot, c.n) })
	}
	if err := s.Put(at("a", 1, 3), "l1", api.MaxQty-8); err != nil || s.Of("l1") != api.MaxQty {
		t.Errorf("%v: %d", err, s.Of("l1"))
	}
}

func TestPutIntoAFullOne(t *testing.T) {
	s := full(t)
	if n := len(s.Lines()); n != api.MaxLines {
		t.Fatal(n)
	}
	// Neither the place alone nor the lot alone is a line.
	for _, c := range []struct {
		p   api.Place
		lot string
	}{{at("b", 1, 1), "l3"}, {at("b", 1, 1), "l1"}, {at("a", 1, 1), "l3"}, {at("a", 1, 1), "l2"}} {
		unchanged(t, s, api.ErrFull, func() error { return s.Put(c.p, c.lot, 1) })
	}
	unchanged(t, s, api.ErrBound, func() error { return s.Put(at("b", 1, 1), "l1", api.MaxQty) })
	unchanged(t, s, api.ErrBound, func() error { return s.Put(at("b", 1, 1), "l3", 0) })
	unchanged(t, s, api.ErrName, func() error { return s.Put(at("b", 1, 1), "", 1) })
	if err := s.Put(at("a", 1, 1), "l1", 1); err != nil || s.At(at("a", 1, 1), "l1") != 3 {
		t.Error("a line that is there takes more:", err)
	}
	if err := s.Take(bay(0), "l2", 2); err != nil {
		t.Error(err)
	}
	if err := s.Put(at("b", 1, 1), "l3", 1); err != nil {
		t.Error("a line of 0 leaves its room:", err)
	}
	unchanged(t, s, api.ErrFull, func() error { return s.Put(bay(0), "l2", 1) })
}

func TestTake(t *testing.T) {
	a, b := at("a", 1, 1), at("a", 1, 2)
	s := of(t, "a-1-1 l1 5\na-1-1 l2 4\na-1-2 l1 3\n")
	for _, c := range []struct {
		p    api.Place
		lot  string
		n    int
		left string
	}{
		{a, "l1", 2, "a-1-1 l1 3\na-1-1 l2 4\na-1-2 l1 3\n"},
		{b, "l1", 3, "a-1-1 l1 3\na-1-1 l2 4\n"},
		{a, "l1", 3, "a-1-1 l2 4\n"},
		{a, "l2", 3, "a-1-1 l2 1\n"},
		{a, "l2", 1, ""},
	} {
		if err := s.Take(c.p, c.lot, c.n); err != nil || s.Text() != c.left {
			t.Errorf("%+v: %v, %q", c, err, s.Text())
		}
	}
	if n := len(s.Lines()); n != 0 || s.Of("l1") != 0 || s.At(a, "l2") != 0 {
		t.Error(n, "lines of nothing")
	}
	unchanged(t, s, api.ErrShort, func() error { return s.Take(a, "l2", 1) })
	if s.Put(a, "l9", api.MaxQty) != nil || s.Take(a, "l9", api.MaxQty) != nil || s.Text() != "" {
		t.Errorf("all at once: %q", s.Text())
	}
}

func TestTakeErrors(t *testing.T) {
	a := at("a", 1, 1)
	s := of(t, "a-1-1 l1 5\na-1-1 l2 9\na-1-2 l1 9\n")
	for _, c := range []struct {
		p    api.Place
		lot  string
		n    int
		want error
	}{
		{a, "l1", 0, api.ErrBound},
		{a, "l1", -1, api.ErrBound},
		{a, "l1", api.MaxQty + 1, api.ErrBound},
		{a, "l1", least, api.ErrBound},
		{a, "l1", most, api.ErrBound},
		{a, "l1", 6, api.ErrShort},
		{a, "l1", api.MaxQty, api.ErrShort},
		{a, "l3", 1, api.ErrShort},
		{at("a", 1, 3), "l1", 1, api.ErrShort},
		{at("a", 2, 1), "l1", 1, api.ErrShort},
		{at("b", 1, 1), "l1", 1, api.ErrShort},
		// What has no name, or is no place, has nothing; the number is told ahead of that.
		{api.Place{}, "", 1, api.ErrShort},
		{at("A", 0, most), "L 1", 1, api.ErrShort},
		{api.Place{}, "", 0, api.ErrBound},
		{at("A", least, 0), "\xff", api.MaxQty + 1, api.ErrBound},
	} {
		unchanged(t, s, c.want, func() error { return s.Take(c.p, c.lot, c.n) })
	}
}

func TestMove(t *testing.T) {
	a, b, c := at("a", 1, 1), at("a", 1, 2), at("b", 2, 3)
	s := of(t, "a-1-1 l1 5\na-1-1 l2 4\na-1-2 l1 3\n")
	for _, m := range []struct {
		from, to api.Place
		lot      string
		n        int
		left     string
	}{
		{a, b, "l1", 2, "a-1-1 l1 3\na-1-1 l2 4\na-1-2 l1 5\n"},
		{a, c, "l1", 1, "a-1-1 l1 2\na-1-1 l2 4\na-1-2 l1 5\nb-2-3 l1 1\n"},
		{b, a, "l1", 5, "a-1-1 l1 7\na-1-1 l2 4\nb-2-3 l1 1\n"},
		{a, b, "l2", 4, "a-1-1 l1 7\na-1-2 l2 4\nb-2-3 l1 1\n"},
		{c, b, "l1", 1, "a-1-1 l1 7\na-1-2 l1 1\na-1-2 l2 4\n"},
	} {
		if err := s.Move(m.from, m.to, m.lot, m.n); err != nil || s.Text() != m.left {
			t.Errorf("%+v: %v, %q", m, err, s.Text())
		}
	}
	if s.Of("l1") != 8 || s.Of("l2") != 4 {
		t.Error(s.Of("l1"), s.Of("l2"))
	}
}

func TestMoveOfAllThatMayBe(t *testing.T) {
	a, b := at("a", 1, 1), at("a", 1, 2)
	s := of(t, "a-1-1 l1 1099511627775\na-1-2 l1 1\n")
	if err := s.Move(b, a, "l1", 1); err != nil {
		t.Error("no piece more of the lot:", err)
	}
	if err := s.Move(a, b, "l1", api.MaxQty); err != nil || s.Text() != "a-1-2 l1 1099511627776\n" {
		t.Errorf("%v, %q", err, s.Text())
	}
}

func TestMoveErrors(t *testing.T) {
	a, b, none := at("a", 1, 1), at("a", 1, 2), api.Place{}
	s := of(t, "a-1-1 l1 5\na-1-1 l2 9\na-1-2 l1 9\n")
	for _, c := range []struct {
		from, to api.Place
		lot      string
		n        int
		want     error
	}{
		{a, b, "l1", 0, api.ErrBound},
		{a, b, "l1", -1, api.ErrBound},
		{a, b, "l1", api.MaxQty + 1, api.ErrBound},
		{a, b, "l1", least, api.ErrBound},
		{a, b, "l1", most, api.ErrBound},
		{a, b, "l1", 6, api.ErrShort},
		{a, b, "l3", 1, api.ErrShort},
		{at("a", 1, 3), b, "l1", 1, api.ErrShort},
		{a, none, "l1", 1, api.ErrName},
		{a, at("A", 1, 2), "l1", 1, api.ErrName},
		{a, at("a", 0, 2), "l1", 1, api.ErrBound},
		{a, at("a", 1, api.MaxBay+1), "l1", 1, api.ErrBound},
		{a, at("a", least, most), "l1", 5, api.ErrBound},
		{a, a, "l1", 1, api.ErrShape},
		{a, a, "l1", 5, api.ErrShape},
		// The number, what is there, where it goes to, and then whether that is where it is.
		{a, none, "l1", 0, api.ErrBound},
		{a, none, "l1", 6, api.ErrShort},
		{a, a, "l1", 0, api.ErrBound},
		{a, a, "l1", 6, api.ErrShort},
		{none, none, "l1", 1, api.ErrShort},
		{none, none, "", 0, api.ErrBound},
		{none, b, "", 1, api.ErrShort},
	} {
		unchanged(t, s, c.want, func() error { return s.Move(c.from, c.to, c.lot, c.n) })
	}
}

func TestMoveInAFullOne(t *testing.T) {
	a, b, c := at("a", 1, 1), at("a", 1, 2), at("b", 1, 1)
	s := full(t)
	unchanged(t, s, api.ErrFull, func() error { return s.Move(a, c, "l1", 1) })
	unchanged(t, s, api.ErrFull, func() error { return s.Move(bay(0), a, "l2", 1) })
	unchanged(t, s, api.ErrShape, func() error { return s.Move(a, a, "l1", 1) })
	unchanged(t, s, api.ErrName, func() error { return s.Move(a, api.Place{}, "l1", 1) })
	unchanged(t, s, api.ErrShort, func() error { return s.Move(a, c, "l1", 3) })
	if err := s.Move(a, c, "l1", 2); err != nil || len(s.Lines()) != api.MaxLines || s.At(a, "l1") != 0 || s.At(c, "l1") != 2 {
		t.Error("the line that goes makes room:", err)
	}
	if err := s.Move(c, b, "l1", 1); err != nil || len(s.Lines()) != api.MaxLines || s.At(b, "l1") != 3 {
		t.Error("both lines are there:", err)
	}
	if err := s.Move(c, b, "l1", 1); err != nil || len(s.Lines()) != api.MaxLines-1 {
		t.Error(err, len(s.Lines()))
	}
	if err := s.Move(b, a, "l1", 1); err != nil || len(s.Lines()) != api.MaxLines {
		t.Error("up to the last line:", err)
	}
}

// P41: what is there

func TestOfNothing(t *testing.T) {
	s := stock.New()
	if s.At(at("a", 1, 1), "l1") != 0 || s.Of("l1") != 0 || len(s.Lines()) != 0 || s.Text() != "" || s.Copy().Text() != "" {
		t.Error("there is something")
	}
	s = of(t, "a-1-1 l1 5\n")
	for _, c := range []struct {
		p   api.Place
		lot string
	}{{at("a", 1, 1), ""}, {at("a", 1, 1), "L1"}, {at("a", 1, 1), "l2"}, {api.Place{}, "l1"}, {at("a", 1, 2), "l1"}, {at("b", 1, 1), "l1"}, {at("a", least, most), "\xff"}} {
		if n := s.At(c.p, c.lot); n != 0 {
			t.Errorf("At(%v, %q) = %d", c.p, c.lot, n)
		}
	}
	for _, lot := range []string{"", "l", "l11", "L1", "\xff"} {
		if n := s.Of(lot); n != 0 {
			t.Errorf("Of(%q) = %d", lot, n)
		}
	}
	if s.Text() != "a-1-1 l1 5\n" {
		t.Error("asking leaves a line")
	}
}

// inOrder: lines as a stock tells them: zones by bytes, rows by numbers, bays back in an even row, lots by bytes.
func inOrder() []api.Line {
	return []api.Line{
		{Place: at("10", 1, 1), Lot: "l1", N: 1}, {Place: at("9", 1, 1), Lot: "l1", N: 2},
		{Place: at("a", 1, 2), Lot: "10", N: 3}, {Place: at("a", 1, 2), Lot: "9", N: 4}, {Place: at("a", 1, 2), Lot: "l", N: 5}, {Place: at("a", 1, 2), Lot: "l1", N: 6},
		{Place: at("a", 1, 10), Lot: "l1", N: 7}, {Place: at("a", 1, 10), Lot: "l10", N: 8}, {Place: at("a", 1, 10), Lot: "l2", N: 9},
		{Place: at("a", 2, 10), Lot: "l1", N: 10}, {Place: at("a", 2, 9), Lot: "l2", N: 1}, {Place: at("a", 2, 2), Lot: "a", N: 2},
		{Place: at("a", 3, 1), Lot: "l1", N: 3}, {Place: at("a", 10, 1), Lot: "l1", N: 4}, {Place: at("a", 20, 40), Lot: "l1", N: 5}, {Place: at("a", 20, 1), Lot: "l1", N: 6},
		{Place: at("aa", 1, 1), Lot: "l1", N: 7}, {Place: at("b", 1, 1), Lot: "l1", N: 8},
	}
}

func TestLinesInWhateverOrderTheyCame(t *testing.T) {
	want := inOrder()
	random := rand.New(rand.NewSource(1))
	for range 50 {
		s := stock.New()
		for _, k := range random.Perm(len(want)) {
			if err := s.Put(want[k].Place, want[k].Lot, want[k].N); err != nil {
				t.Fatal(err)
			}
		}
		if got := s.Lines(); !slices.Equal(got, want) {
			t.Fatal(got)
		}
	}
	if !slices.IsSortedFunc(want, func(a, b api.Line) int { return place.Compare(a.Place, b.Place) }) {
		t.Error("not the way")
	}
}

func TestText(t *testing.T) {
	s := stock.New()
	for _, l := range inOrder() {
		s.Put(l.Place, l.Lot, l.N)
	}
	want := "10-1-1 l1 1\n9-1-1 l1 2\na-1-2 10 3\na-1-2 9 4\na-1-2 l 5\na-1-2 l1 6\na-1-10 l1 7\na-1-10 l10 8\na-1-10 l2 9\na-2-10 l1 10\na-2-9 l2 1\na-2-2 a 2\n" +
		"a-3-1 l1 3\na-10-1 l1 4\na-20-40 l1 5\na-20-1 l1 6\naa-1-1 l1 7\nb-1-1 l1 8\n"
	if s.Text() != want {
		t.Errorf("%q", s.Text())
	}
	if got := of(t, want); got.Text() != want || !slices.Equal(got.Lines(), inOrder()) || got.Of("l1") != s.Of("l1") {
		t.Errorf("%q", got.Text())
	}
}

func TestLinesAreNewMemory(t *testing.T) {
	s := of(t, "a-1-1 l1 5\na-1-2 l1 3\n")
	l := s.Lines()
	l[0] = api.Line{}
	l[1].N++
	_ = append(l[:1], api.Line{})
	if s.Text() != "a-1-1 l1 5\na-1-2 l1 3\n" || s.Lines()[0].N != 5 {
		t.Errorf("%q", s.Text())
	}
	l = s.Lines()
	s.Put(at("a", 1, 1), "l1", 1)
	if l[0].N != 5 {
		t.Error(l)
	}
}

func TestCopyStandsAlone(t *testing.T) {
	s := of(t, "a-1-1 l1 5\na-1-2 l1 3\n")
	c := s.Copy()
	s.Put(at("a", 1, 1), "l1", 1)
	s.Take(at("a", 1, 2), "l1", 3)
	if c.Text() != "a-1-1 l1 5\na-1-2 l1 3\n" || c.Of("l1") != 8 {
		t.Errorf("%q", c.Text())
	}
	c.Move(at("a", 1, 1), at("b", 1, 1), "l1", 5)
	c.Put(at("a", 1, 3), "l2", 1)
	if s.Text() != "a-1-1 l1 6\n" {
		t.Errorf("%q", s.Text())
	}
	empty := stock.New()
	other := empty.Copy()
	if err := other.Put(at("a", 1, 1), "l1", 1); err != nil || empty.Text() != "" || other.Text() != "a-1-1 l1 1\n" {
		t.Errorf("%v, %q, %q", err, empty.Text(), other.Text())
	}
}

// fault: is it this one, at this place?
func fault(err error, at int, want error) bool {
	var f *api.Fault
	return errors.As(err, &f) && f.At == at && f.Err == want
}

func TestReadErrorsOfALine(t *testing.T) {
	long := strings.Repeat("9", 10000)
	for want, lines := range map[error][]string{
		api.ErrText: {
			"", " ", "  ", "   ", "a-1-1", "a-1-1 ", "a-1-1 l1", "a-1-1 l1 ", "a-1-1  l1 5", "a-1-1 l1  5", " a-1-1 l1 5", "a-1-1 l1 5 ", "a-1-1 l1 5 6", "a-1-1 l1 5\r", "a-1-1\tl1\t5",
			"a-1-1 l1 x", "a-1-1 l1 5x", "a-1-1 l1 05", "a-1-1 l1 00", "a-1-1 l1 -5", "a-1-1 l1 -0", "a-1-1 l1 +5", "a-1-1 l1 5.0", "a-1-1 l1 1e3", "a-1-1 l1 0x5", "a-1-1 l1 1_0", "a-1-1 l1 ５",
			"a-1-1 l1 10000000000000", "a-1-1 l1 00000000000005", "a-1-1 l1 " + long, "a-1-1 l1 5\x00", "a-1-1 l1 \xff", "a-1-1\u00a0l1\u00a05",
			"a-1 l1 5", "a-1-1-1 l1 5", "a-01-1 l1 5", "a-1-01 l1 5", "a-x-1 l1 5", "a-1-12345 l1 5", " l1 5", "l1 a-1-1 5", "-1 l1 5",
			// The form is told ahead of all else, that of the number and of the place, too.
			"A-1-1 l1 x", "a-0-1 l1 x", "a-1-1 L1 x", "a-0-1 L1", "A-1 l1 5", "a-1 L1 0", "a-1-1 L1 00", "a-1-1  x",
		},
		api.ErrName: {
			"A-1-1 l1 5", "-1-1 l1 5", "abcdefghi-1-1 l1 5", "\xff-1-1 l1 5", "a-1-1 L1 5", "a-1-1 abcdefghi 5", "a-1-1 l-1 5", "a-1-1  5", "a-1-1 \xff 5", "a-1-1 l1\x00 5",
			"A-0-1 l1 5", "A-1-1 L1 0", "a-1-1 L1 0", "a-1-1 L1 9999999999999", "a-1-1  0",
		},
		api.ErrBound: {
			"a-0-1 l1 5", "a-1-0 l1 5", "a-21-1 l1 5", "a-1-41 l1 5", "a-9999-9999 l1 5", "a-0-1 L1 5", "a-0-1 l1 0",
			"a-1-1 l1 0", "a-1-1 l1 1099511627777", "a-1-1 l1 9999999999999",
		},
	} {
		for _, line := range lines {
			if s, err := stock.Read(line + "\n"); s != nil || !fault(err, 0, want) {
				t.Errorf("Read(%.30q): %v, not %v", line, err, want)
			}
			// Behind two that are well; an error of the form, of a name, of a bound is told ahead of the order.
			if s, err := stock.Read("0-1-1 l1 1\nb-1-1 l1 1\n" + line + "\nx"); s != nil || !fault(err, 2, want) {
				t.Errorf("Read(%.30q), as the third one: %v, not %v", line, err, want)
			}
		}
	}
}

func TestReadWithoutAnEnd(t *testing.T) {
	for text, at := range map[string]int{
		"a-1-1 l1 5": 0, "a": 0, " ": 0, "A-1-1 l1 5": 0, "a-1-1 l1 0": 0, "a-1-1 l1 5\r": 0,
		"a-1-1 l1 5\na-1-2 l1 5": 1, "a-1-1 l1 5\na-1-1 l1 5": 1, "a-1-1 l1 5\nb": 1, "a-1-1 l1 5\na-1-2 l1 5\n ": 2,
		// A line that is empty is not so made.
		"\n": 0, "\n\n": 0, "\na-1-1 l1 5\n": 0, "a-1-1 l1 5\n\n": 1, "a-1-1 l1 5\n\na-1-2 l1 5\n": 1,
	} {
		if s, err := stock.Read(text); s != nil || !fault(err, at, api.ErrText) {
			t.Errorf("Read(%q): %v", text, err)
		}
	}
}

func TestReadOutOfOrder(t *testing.T) {
	l := inOrder()
	for i := range l {
		for k := range l {
			text := line(l[i]) + line(l[k])
			s, err := stock.Read(text)
			if i < k && (err != nil || s.Text() != text) || i >= k && (s != nil || !fault(err, 1, api.ErrOrder)) {
				t.Errorf("Read(%q): %v", text, err)
			}
		}
	}
	for text, want := range map[string]struct {
		at  int
		err error
	}{
		"a-1-1 l1 5\na-1-1 l1 6\n":                            {1, api.ErrOrder},
		"a-1-1 l1 5\na-1-2 l1 5\na-1-1 l2 5\n":                {2, api.ErrOrder},
		"a-1-1 l1 1\na-1-2 l1 1\na-1-1 l2 1\nA-1-1 l1 5\n":    {2, api.ErrOrder},
		"a-1-2 l1 1099511627776\na-1-1 l1 1\n":                {1, api.ErrOrder},
		"a-1-1 l1 1099511627776\na-1-1 l1 1\n":                {1, api.ErrOrder},
		"a-1-1 l1 1099511627776\na-1-2 l1 1\n":                {1, api.ErrBound},
		"a-1-1 l1 9\na-1-1 l2 9\na-1-2 l1 1099511627768\n":    {2, api.ErrBound},
		"a-1-1 l1 1099511627776\na-1-2 l1 1\na-1-1 l1 1\nx\n": {1, api.ErrBound},
	} {
		if s, err := stock.Read(text); s != nil || !fault(err, want.at, want.err) {
			t.Errorf("Read(%q): %v", text, err)
		}
	}
	if s := of(t, "a-1-1 l1 9\na-1-2 l1 1099511627767\n"); s.Of("l1") != api.MaxQty {
		t.Error(s.Of("l1"))
	}
}

// line of a stock's text, made by other means.
func line(l api.Line) string {
	return fmt.Sprintf("%s-%d-%d %s %d\n", l.Place.Zone, l.Place.Row, l.Place.Bay, l.Lot, l.N)
}

func TestReadOfManyLines(t *testing.T) {
	var text strings.Builder
	for k := range api.MaxLines {
		text.WriteString(line(api.Line{Place: at("abcdefgh", 1, 1), Lot: fmt.Sprintf("lot%05d", k), N: api.MaxQty}))
	}
	if s := of(t, text.String()); len(s.Lines()) != api.MaxLines || s.Text() != text.String() {
		t.Error(len(s.Lines()))
	}
	for behind, want := range map[string]error{
		"b-1-1 l1 1\n":                 api.ErrFull,
		"b-1-1 l1 1\nx":                api.ErrFull,
		"b-1-1 l1 1":                   api.ErrText,
		"b-1-1 l1 0\n":                 api.ErrBound,
		"b-1-1 lot00000 1\n":           api.ErrBound,
		"a-1-1 l1 1\n":                 api.ErrOrder,
		"abcdefgh-1-1 lot00199 1\n":    api.ErrOrder,
		"abcdefgh-1-2 lot00199 1\n":    api.ErrBound,
		"abcdefgh-1-1 lot00200 1\nx\n": api.ErrFull,
	} {
		if s, err := stock.Read(text.String() + behind); s != nil || !fault(err, api.MaxLines, want) {
			t.Errorf("with %q behind: %v, not %v", behind, err, want)
		}
	}
}

func TestReadOfTooManyBytes(t *testing.T) {
	ahead := "a-1-1 l1 5\n"
	for _, text := range []string{strings.Repeat("x", api.MaxText+1), strings.Repeat("\n", api.MaxText+1), ahead + strings.Repeat("x", api.MaxText+1-len(ahead)), strings.Repeat(ahead, 1<<16)} {
		if s, err := stock.Read(text); s != nil || err != api.ErrBound {
			t.Errorf("%d bytes: %v", len(text), err)
		}
	}
	if s, err := stock.Read(ahead + strings.Repeat("x", api.MaxText-len(ahead))); s != nil || !fault(err, 1, api.ErrText) {
		t.Error("not one byte too many:", err)
	}
}

func TestReadOfNothing(t *testing.T) {
	s := of(t, "")
	if s.Text() != "" || len(s.Lines()) != 0 {
		t.Errorf("%q", s.Text())
	}
	if err := s.Put(at("a", 1, 1), "l1", 1); err != nil || stock.New().Text() != "" {
		t.Error(err)
	}
}

func FuzzReadAgain(f *testing.F) {
	for _, s := range []string{"", "\n", "a-1-1 l1 5\n", "a-1-1 l1 5", "a-1-1 l1 5\na-1-2 l1 5\n", "a-2-3 l1 5\na-2-9 l1 5\n", "a-1-1 l1 0\n", "a-1-1 l1 1099511627776\na-1-2 l1 1\n", "A-1-1 l1 5\n", "a-1-1  5\n"} {
		f.Add(s)
	}
	f.Fuzz(func(t *testing.T, s string) {
		got, err := stock.Read(s)
		var at *api.Fault
		switch {
		case err == nil && got.Text() != s:
			t.Errorf("Read(%q) is written %q", s, got.Text())
		case err != nil && got != nil:
			t.Errorf("Read(%q) is something beside %v", s, err)
		case err != nil && errors.As(err, &at) == (len(s) > api.MaxText):
			t.Errorf("Read(%q): %v", s, err)
		case at != nil && (at.At < 0 || at.At > strings.Count(s, "\n")):
			t.Errorf("Read(%q): at %d", s, at.At)
		}
	})
}

// P42: what moves is neither more nor less

// lists is a stock without a map: what the chapter says, word by word.
type lists struct{ lines []api.Line }

func (m *lists) find(p api.Place, lot string) int {
	return slices.IndexFunc(m.lines, func(l api.Line) bool { return l.Place == p && l.Lot == lot })
}

func (m *lists) sum(lot string) int {
	n := 0
	for _, l := range m.lines {
		if l.Lot == lot {
			n += l.N
		}
	}
	return n
}

func (m *lists) put(p api.Place, lot string, n int) error {
	k := m.find(p, lot)
	switch {
	case place.Check(p) != nil:
		return place.Check(p)
	case n < 1 || n > api.MaxQty || m.sum(lot)+n > api.MaxQty:
		return api.ErrBound
	case k < 0 && len(m.lines) == api.MaxLines:
		return api.ErrFull
	case k < 0:
		m.lines = append(m.lines, api.Line{Place: p, Lot: lot, N: n})
	default:
		m.lines[k].N += n
	}
	return nil
}

func (m *lists) take(p api.Place, lot string, n int) error {
	k := m.find(p, lot)
	switch {
	case n < 1 || n > api.MaxQty:
		return api.ErrBound
	case k < 0 || m.lines[k].N < n:
		return api.ErrShort
	case m.lines[k].N == n:
		m.lines = slices.Delete(m.lines, k, k+1)
	default:
		m.lines[k].N -= n
	}
	return nil
}

func (m *lists) move(from, to api.Place, lot string, n int) error {
	before := slices.Clone(m.lines)
	if err := m.take(from, lot, n); err != nil {
		return err
	}
	err := m.put(to, lot, n)
	if from == to {
		err = api.ErrShape
	}
	if err != nil {
		m.lines = before
	}
	return err
}

// pieces of some lots: of each one, all together.
func pieces(s *stock.Stock) (sums [3]int) {
	for i, lot := range []string{"l1", "l2", "l3"} {
		sums[i] = s.Of(lot)
	}
	return sums
}

func TestAsListsWouldBe(t *testing.T) {
	random := rand.New(rand.NewSource(3))
	numbers := []int{1, 1, 2, 3, 5, 9, 0, -1, api.MaxQty, api.MaxQty - 4, api.MaxQty + 1}
	told := map[error]int{}
	s, m := stock.New(), &lists{}
	for step := range 16000 {
		// Bay 0 is none; three lots at 120 others are more lines than there may be.
		from, to := at("a", 1+random.Intn(3), random.Intn(41)), at("a", 1+random.Intn(3), random.Intn(41))
		lot := []string{"l1", "l2", "l3"}[random.Intn(3)]
		n := numbers[random.Intn(len(numbers))]
		if l := m.lines; len(l) > 0 && random.Intn(2) == 0 {
			from, lot = l[random.Intn(len(l))].Place, l[random.Intn(len(l))].Lot
		}
		before := pieces(s)
		var got, want error
		// By turns the stock grows and shrinks.
		switch kind := random.Intn(8); {
		case kind < 4 && step/2000%2 == 0 || kind < 1:
			got, want = s.Put(to, lot, n), m.put(to, lot, n)
		case kind < 5:
			got, want = s.Take(from, lot, n), m.take(from, lot, n)
		default:
			got, want = s.Move(from, to, lot, n), m.move(from, to, lot, n)
			if pieces(s) != before {
				t.Fatalf("step %d: a move makes %v of %v", step, pieces(s), before)
			}
		}
		told[want]++
		if got != want {
			t.Fatalf("step %d: %v, not %v", step, got, want)
		}
		if step%40 == 0 {
			alike(t, s, m)
		}
	}
	for _, err := range []error{nil, api.ErrBound, api.ErrShort, api.ErrShape, api.ErrFull} {
		if told[err] == 0 {
			t.Errorf("%v is never told: %v", err, told)
		}
	}
}

// alike: a stock, and the lists of the same steps.
func alike(t *testing.T, s *stock.Stock, m *lists) {
	t.Helper()
	var want []string
	for _, l := range m.lines {
		if s.At(l.Place, l.Lot) != l.N {
			t.Fatalf("%v: %d", l, s.At(l.Place, l.Lot))
		}
		want = append(want, line(l))
	}
	got := strings.SplitAfter(s.Text(), "\n")
	got = got[:len(got)-1]
	slices.Sort(want)
	slices.Sort(got)
	if !slices.Equal(got, want) {
		t.Fatalf("%q, not %q", got, want)
	}
	if again := of(t, s.Text()); again.Text() != s.Text() || pieces(again) != pieces(s) || !slices.Equal(again.Lines(), s.Lines()) {
		t.Fatalf("%q is read as %q", s.Text(), again.Text())
	}
}

func ExampleStock() {
	s := stock.New()
	shelf, gate := at("a", 2, 3), at("a", 2, 9)
	s.Put(shelf, "l1", 5)
	s.Move(shelf, gate, "l1", 2)
	fmt.Print(s.Text())
	fmt.Println(s.Of("l1"), s.Take(gate, "l1", 3))
	// Output:
	// a-2-9 l1 2
	// a-2-3 l1 3
	// 5 tithebarn: short
}
