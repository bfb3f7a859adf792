package alloc_test

import (
	"errors"
	"fmt"
	"math/rand"
	"slices"
	"strings"
	"sync"
	"testing"

	"tithebarn/alloc"
	"tithebarn/api"
	"tithebarn/book"
	"tithebarn/entry"
)

const (
	least = -1 << 63
	most  = 1<<63 - 1
)

// made of texts, all of which must be done.
func made(t testing.TB, texts ...string) *book.Book {
	t.Helper()
	b := book.New()
	for _, s := range texts {
		do(t, b, s)
	}
	return b
}

func do(t testing.TB, b *book.Book, text string) {
	t.Helper()
	e, err := entry.Read(text)
	if err == nil {
		err = b.Do(e)
	}
	if err != nil {
		t.Fatalf("%q: %v", text, err)
	}
}

// told picks: as texts of what goes by them.
func told(l []api.Pick) string {
	var s []string
	for _, p := range l {
		s = append(s, fmt.Sprintf("%s-%d-%d/%s/%d", p.Place.Zone, p.Place.Row, p.Place.Bay, p.Lot, p.N))
	}
	return strings.Join(s, " ")
}

// barn: rye in four lots, of which l2 is the sooner of two days, l1 and l3 are of one; and malt.
func barn(t testing.TB) *book.Book {
	t.Helper()
	return made(t, "goods rye 6", "goods malt 1", "goods oats 1",
		"lot l3 rye 9 2", "lot l1 rye 9 3", "lot l2 rye 5 2", "lot l4 rye 100000 1", "lot m1 malt 9 1", "lot m2 malt 0 1",
		"in l1 a-3-1 4", "in l1 a-2-1 3", "in l1 a-2-9 2",
		"in l2 b-1-1 5", "in l2 a-1-7 1",
		"in l3 a-1-1 6", "in l4 a-2-9 7",
		"in m1 a-1-7 2", "in m2 c-1-1 8")
}

// P70: which pieces go

func TestPlan(t *testing.T) {
	b := barn(t)
	for _, c := range []struct {
		code   string
		n, day int
		want   string
	}{
		// The soonest lot first, though others lie ahead on the way; of it, the first place on the way.
		{"rye", 1, 0, "a-1-7/l2/1"},
		{"rye", 2, 0, "a-1-7/l2/1 b-1-1/l2/1"},
		{"rye", 5, 0, "a-1-7/l2/1 b-1-1/l2/4"},
		{"rye", 6, 0, "a-1-7/l2/1 b-1-1/l2/5"},
		// Of one day: by IDs. An even row goes back.
		{"rye", 7, 0, "a-1-7/l2/1 b-1-1/l2/5 a-2-9/l1/1"},
		{"rye", 9, 0, "a-1-7/l2/1 b-1-1/l2/5 a-2-9/l1/2 a-2-1/l1/1"},
		{"rye", 15, 0, "a-1-7/l2/1 b-1-1/l2/5 a-2-9/l1/2 a-2-1/l1/3 a-3-1/l1/4"},
		{"rye", 16, 0, "a-1-7/l2/1 b-1-1/l2/5 a-2-9/l1/2 a-2-1/l1/3 a-3-1/l1/4 a-1-1/l3/1"},
		{"rye", 22, 0, "a-1-7/l2/1 b-1-1/l2/5 a-2-9/l1/2 a-2-1/l1/3 a-3-1/l1/4 a-1-1/l3/6 a-2-9/l4/1"},
		{"rye", 28, 0, "a-1-7/l2/1 b-1-1/l2/5 a-2-9/l1/2 a-2-1/l1/3 a-3-1/l1/4 a-1-1/l3/6 a-2-9/l4/7"},
		// A lot is good on its last day, and not on the next one.
		{"rye", 1, 5, "a-1-7/l2/1"},
		{"rye", 1, 6, "a-2-9/l1/1"},
		{"rye", 3, 9, "a-2-9/l1/2 a-2-1/l1/1"},
		{"rye", 7, 10, "a-2-9/l4/7"},
		{"rye", 7, api.MaxDay, "a-2-9/l4/7"},
		{"malt", 8, 0, "c-1-1/m2/8"},
		{"malt", 9, 0, "c-1-1/m2/8 a-1-7/m1/1"},
		{"malt", 2, 1, "a-1-7/m1/2"},
	} {
		l, err := alloc.Plan(b, c.code, c.n, c.day)
		if told(l) != c.want || err != nil {
			t.Errorf("Plan(%s, %d, %d) = %s, %v, not %s", c.code, c.n, c.day, told(l), err, c.want)
		}
	}
}

// What is held stays: it is what the way comes to last, of its lot.
func TestPlanHeld(t *testing.T) {
	for _, c := range []struct {
		hold string // of l2, which has 6, and l1, which has 9
		n    int
		day  int
		want string
	}{
		{"hold l2 1", 5, 0, "a-1-7/l2/1 b-1-1/l2/4"},
		{"hold l2 1", 6, 0, "a-1-7/l2/1 b-1-1/l2/4 a-2-9/l1/1"},
		{"hold l2 5", 2, 0, "a-1-7/l2/1 a-2-9/l1/1"},
		{"hold l2 6", 1, 0, "a-2-9/l1/1"},
		{"hold l2 6,free l2 2", 3, 0, "a-1-7/l2/1 b-1-1/l2/1 a-2-9/l1/1"},
		{"hold l2 6,more l2 c-1-1 1", 1, 0, "a-1-7/l2/1"},
		{"hold l1 8", 2, 6, "a-2-9/l1/1 a-1-1/l3/1"},
		{"hold l1 4", 6, 6, "a-2-9/l1/2 a-2-1/l1/3 a-1-1/l3/1"},
		{"hold l1 3", 7, 6, "a-2-9/l1/2 a-2-1/l1/3 a-3-1/l1/1 a-1-1/l3/1"},
		{"hold l1 9,hold l2 6,hold l3 6", 7, 0, "a-2-9/l4/7"},
		// What other goods hold, and what lots hold that are not good, does not count.
		{"hold m1 2,hold m2 8", 6, 0, "a-1-7/l2/1 b-1-1/l2/5"},
		{"hold l2 6", 9, 6, "a-2-9/l1/2 a-2-1/l1/3 a-3-1/l1/4"},
	} {
		b := barn(t)
		for _, s := range strings.Split(c.hold, ",") {
			do(t, b, s)
		}
		if l, err := alloc.Plan(b, "rye", c.n, c.day); told(l) != c.want || err != nil {
			t.Errorf("%s: Plan(%d, %d) = %s, %v, not %s", c.hold, c.n, c.day, told(l), err, c.want)
		}
	}
}

// Pieces that moved, went or were found are taken from where they are now.
func TestPlanAsItIsNow(t *testing.T) {
	b := barn(t)
	for _, c := range []struct{ text, want string }{
		{"move l2 b-1-1 a-1-1 5", "a-1-1/l2/5 a-1-7/l2/1"},
		{"move l2 a-1-7 b-1-1 1", "a-1-1/l2/5 b-1-1/l2/1"},
		{"more l2 a-1-1 1", "a-1-1/l2/6"},
		{"out l2 a-1-1 3", "a-1-1/l2/3 b-1-1/l2/1 a-2-9/l1/2"},
		{"less l2 a-1-1 3", "b-1-1/l2/1 a-2-9/l1/2 a-2-1/l1/3"},
		{"lot l0 rye 4 1", "b-1-1/l2/1 a-2-9/l1/2 a-2-1/l1/3"},
		{"in l0 z-20-1 6", "z-20-1/l0/6"},
		{"in l0 z-20-40 2", "z-20-40/l0/2 z-20-1/l0/4"},
	} {
		do(t, b, c.text)
		if l, err := alloc.Plan(b, "rye", 6, 0); told(l) != c.want || err != nil {
			t.Errorf("%s: %s, %v, not %s", c.text, told(l), err, c.want)
		}
	}
}

// The first error that is so is told, bare, with no picks.
func TestPlanErrors(t *testing.T) {
	b := barn(t)
	do(t, b, "hold m1 2")
	do(t, b, "hold m2 7")
	for _, c := range []struct {
		b      *book.Book
		code   string
		n, day int
		want   error
	}{
		{nil, "rye", 1, 0, api.ErrShape}, {nil, "rye", 0, 0, api.ErrShape}, {nil, "", least, most, api.ErrShape},
		{b, "rye", 0, 0, api.ErrBound}, {b, "rye", -1, 0, api.ErrBound}, {b, "rye", least, 0, api.ErrBound}, {b, "rye", most, 0, api.ErrBound},
		{b, "rye", api.MaxQty + 1, 0, api.ErrBound}, {b, "rye", 1, -1, api.ErrBound}, {b, "rye", 1, api.MaxDay + 1, api.ErrBound},
		{b, "rye", 1, least, api.ErrBound}, {b, "rye", 1, most, api.ErrBound},
		{b, "zz", 0, 0, api.ErrBound}, {b, "zz", 1, -1, api.ErrBound}, {b, "", api.MaxQty + 1, 0, api.ErrBound}, {b, "zz", 1, api.MaxDay + 1, api.ErrBound},
		{b, "zz", 1, 0, api.ErrNone}, {b, "", 1, 0, api.ErrNone}, {b, "Rye", 1, 0, api.ErrNone}, {b, "rye ", 1, 0, api.ErrNone}, {b, "ry", 1, 0, api.ErrNone},
		{b, "l1", 1, 0, api.ErrNone}, {b, "zz", api.MaxQty, api.MaxDay, api.ErrNone}, {b, "\xff", 1, 0, api.ErrNone}, {b, strings.Repeat("a", 1<<16), 1, 0, api.ErrNone},
		{book.New(), "rye", 1, 0, api.ErrNone}, {&book.Book{}, "rye", 1, 0, api.ErrNone}, {&book.Book{}, "rye", 0, 0, api.ErrBound},
		{b, "rye", 29, 0, api.ErrShort}, {b, "rye", api.MaxQty, 0, api.ErrShort}, {b, "rye", 23, 6, api.ErrShort}, {b, "rye", 8, 10, api.ErrShort},
		{b, "rye", 8, api.MaxDay, api.ErrShort}, {b, "oats", 1, 0, api.ErrShort},
		{b, "malt", 2, 0, api.ErrShort}, {b, "malt", 1, 1, api.ErrShort}, {b, "malt", 1, 10, api.ErrShort},
	} {
		if l, err := alloc.Plan(c.b, c.code, c.n, c.day); len(l) > 0 || err != c.want {
			t.Errorf("Plan(%.9q, %d, %d) = %s, %v, not %v", c.code, c.n, c.day, told(l), err, c.want)
		}
	}
	if l, err := alloc.Plan(b, "malt", 1, 0); told(l) != "c-1-1/m2/1" || err != nil {
		t.Error(told(l), err)
	}
}

// As much as a stock has: all lines, all lots.
func TestPlanOfAll(t *testing.T) {
	b := made(t, "goods rye 1")
	var want []string
	for k := range api.MaxLots {
		do(t, b, fmt.Sprintf("lot x%d rye %d 0", k, api.MaxLots-k))
	}
	all := 0
	for k := api.MaxLots - 1; k >= 0; k-- {
		for bay := 1; bay <= api.MaxLines/api.MaxLots; bay++ {
			do(t, b, fmt.Sprintf("in x%d a-%d-%d %d", k, 1+2*(k%10), bay, k+1))
			want = append(want, fmt.Sprintf("a-%d-%d/x%d/%d", 1+2*(k%10), bay, k, k+1))
			all += k + 1
		}
	}
	l, err := alloc.Plan(b, "rye", all, 0)
	if told(l) != strings.Join(want, " ") || err != nil {
		t.Error(told(l), err)
	}
	if n := alloc.Free(b, "rye", 0); n != all {
		t.Errorf("%d are free, not %d", n, all)
	}
	goes(t, b, "rye", all, 0, l)
}

func TestPlanFullStock(t *testing.T) {
	b := made(t, "goods rye 1", "lot l1 rye 3 1")
	for k := range api.MaxLines {
		do(t, b, fmt.Sprintf("in l1 z-%d-%d 2", 1+k/api.MaxBay, 1+k%api.MaxBay))
	}
	l, err := alloc.Plan(b, "rye", 2*api.MaxLines-1, 3)
	if len(l) != api.MaxLines || err != nil {
		t.Fatal(len(l), err)
	}
	if last := l[len(l)-1]; last != (api.Pick{Place: api.Place{Zone: "z", Row: 5, Bay: 40}, Lot: "l1", N: 1}) {
		t.Error(last)
	}
	goes(t, b, "rye", 2*api.MaxLines-1, 3, l)
}

// P71: out of each, how many are free

func TestOut(t *testing.T) {
	a, z := api.Place{Zone: "a", Row: 1, Bay: 7}, api.Place{Zone: "z", Row: 20, Bay: 40}
	l := []api.Pick{{Place: a, Lot: "l2", N: 1}, {Place: z, Lot: "l1", N: api.MaxQty}, {Place: a, Lot: "l2", N: 1}, {}, {Place: api.Place{Zone: "Z", Row: -1, Bay: most}, Lot: "no name", N: least}}
	want := []api.Entry{
		{Kind: "out", Lot: api.Lot{ID: "l2"}, From: a, N: 1},
		{Kind: "out", Lot: api.Lot{ID: "l1"}, From: z, N: api.MaxQty},
		{Kind: "out", Lot: api.Lot{ID: "l2"}, From: a, N: 1},
		{Kind: "out"},
		{Kind: "out", Lot: api.Lot{ID: "no name"}, From: api.Place{Zone: "Z", Row: -1, Bay: most}, N: least},
	}
	was := slices.Clone(l)
	got := alloc.Out(l)
	if !slices.Equal(got, want) || !slices.Equal(l, was) {
		t.Error(got, l)
	}
	for _, e := range got[:3] {
		if err := entry.Check(e); err != nil {
			t.Error(e, err)
		}
	}
	for k := range l {
		if got := alloc.Out(l[:k]); !slices.Equal(got, want[:k]) {
			t.Error(k, got)
		}
	}
	if len(alloc.Out(nil)) != 0 || len(alloc.Out([]api.Pick{})) != 0 {
		t.Error("none")
	}
}

func TestFree(t *testing.T) {
	b := barn(t)
	for _, c := range []struct {
		text string // done ahead
		code string
		day  int
		want int
	}{
		{"", "rye", 0, 28}, {"", "rye", 5, 28}, {"", "rye", 6, 22}, {"", "rye", 9, 22}, {"", "rye", 10, 7}, {"", "rye", api.MaxDay, 7},
		{"", "malt", 0, 10}, {"", "malt", 1, 2}, {"", "malt", 9, 2}, {"", "malt", 10, 0}, {"", "oats", 0, 0},
		{"hold l2 2", "rye", 0, 26}, {"", "rye", 6, 22},
		{"hold l1 9", "rye", 0, 17}, {"", "rye", 6, 13}, {"", "rye", 10, 7}, {"", "malt", 0, 10},
		{"free l1 4", "rye", 6, 17},
		{"out l2 b-1-1 4", "rye", 0, 17},
		{"in l4 a-1-1 5", "rye", 0, 22}, {"", "rye", 10, 12},
		{"hold m1 2", "malt", 1, 0}, {"", "malt", 0, 8},
		// No plan is of such a day.
		{"", "rye", -1, 0}, {"", "rye", least, 0}, {"", "rye", api.MaxDay + 1, 0}, {"", "rye", most, 0},
		{"", "zz", 0, 0}, {"", "", 0, 0}, {"", "l1", 0, 0}, {"", "Rye", 0, 0}, {"", "zz", -1, 0}, {"", "\xff", most, 0},
	} {
		if c.text != "" {
			do(t, b, c.text)
		}
		if n := alloc.Free(b, c.code, c.day); n != c.want {
			t.Errorf("%s: Free(%q, %d) = %d, not %d", c.text, c.code, c.day, n, c.want)
		}
	}
	for _, b := range []*book.Book{nil, {}, book.New()} {
		if n := alloc.Free(b, "rye", 0); n != 0 {
			t.Error(n)
		}
	}
}

// A plan has at most MaxQty: of more, however many there are, there is none.
func TestMostPieces(t *testing.T) {
	b := made(t, "goods rye 1", "lot l1 rye 3 1", "lot l2 rye 4 1", "lot l3 rye 5 1", "in l1 a-1-1 1099511627776")
	for _, c := range []struct {
		text    string
		n, free int
		want    string
	}{
		{"hold l1 1", api.MaxQty - 1, api.MaxQty - 1, "a-1-1/l1/1099511627775"},
		{"free l1 1", api.MaxQty, api.MaxQty, "a-1-1/l1/1099511627776"},
		{"in l2 a-1-1 1099511627776", api.MaxQty, api.MaxQty, "a-1-1/l1/1099511627776"},
		{"hold l1 1099511627775", api.MaxQty, api.MaxQty, "a-1-1/l1/1 a-1-1/l2/1099511627775"},
		{"hold l2 1", api.MaxQty, api.MaxQty, "a-1-1/l1/1 a-1-1/l2/1099511627775"},
		{"hold l2 1", api.MaxQty - 1, api.MaxQty - 1, "a-1-1/l1/1 a-1-1/l2/1099511627774"},
		{"in l3 b-1-1 1099511627776", api.MaxQty, api.MaxQty, "a-1-1/l1/1 a-1-1/l2/1099511627774 b-1-1/l3/1"},
	} {
		do(t, b, c.text)
		l, err := alloc.Plan(b, "rye", c.n, 0)
		if told(l) != c.want || err != nil {
			t.Errorf("%s: %s, %v, not %s", c.text, told(l), err, c.want)
		}
		if n := alloc.Free(b, "rye", 0); n != c.free {
			t.Errorf("%s: %d are free, not %d", c.text, n, c.free)
		}
		more := api.ErrBound
		if c.n < api.MaxQty {
			more = api.ErrShort
		}
		if l, err := alloc.Plan(b, "rye", c.n+1, 0); len(l) > 0 || err != more {
			t.Errorf("%s: %s, %v", c.text, told(l), err)
		}
		goes(t, b, "rye", c.n, 0, l)
	}
}

// P4: a book is only read, answers are new memory

func TestBookStays(t *testing.T) {
	b := barn(t)
	was := b.Copy()
	l, err := alloc.Plan(b, "rye", 20, 0)
	if err != nil {
		t.Fatal(err)
	}
	want := told(l)
	again, _ := alloc.Plan(b, "rye", 20, 0)
	outs := alloc.Out(l)
	for i := range l {
		l[i] = api.Pick{}
		outs[i].N = 0
	}
	l = append(l[:1], api.Pick{Lot: "none"})
	if told(again) != want || !book.Same(b, was) || alloc.Free(b, "rye", 0) != 28 {
		t.Error(told(again), l)
	}
	if third, _ := alloc.Plan(b, "rye", 20, 0); told(third) != want {
		t.Error(told(third))
	}
	if e := alloc.Out(again); outs[0].N != 0 || e[0].N != again[0].N {
		t.Error(e, outs)
	}
}

// What was answered does not change with the book.
func TestPlanStays(t *testing.T) {
	b := barn(t)
	l, _ := alloc.Plan(b, "rye", 6, 0)
	do(t, b, "out l2 a-1-7 1")
	do(t, b, "move l2 b-1-1 b-1-2 5")
	if told(l) != "a-1-7/l2/1 b-1-1/l2/5" {
		t.Error(told(l))
	}
}

// P2: alike, however often and beside whom it is asked.
func TestAlwaysAlike(t *testing.T) {
	b := barn(t)
	want, _ := alloc.Plan(b, "rye", 25, 0)
	var wait sync.WaitGroup
	var got [8][]api.Pick
	for i := range got {
		wait.Go(func() {
			for range 20 {
				got[i], _ = alloc.Plan(b, "rye", 25-alloc.Free(b, "zz", i), 0)
			}
		})
	}
	wait.Wait()
	for _, l := range got {
		if !slices.Equal(l, want) {
			t.Error(told(l))
		}
	}
}

// P72: a plan has just as many; it goes with no error; the soonest first

// goes: what the plan says goes, and no more; ahead of each pick nothing sooner could go.
func goes(t testing.TB, b *book.Book, code string, n, day int, l []api.Pick) {
	t.Helper()
	x, sum, free := b.Copy(), 0, freeOf(b, code, day)
	for i, e := range alloc.Out(l) {
		if l[i].N < 1 {
			t.Errorf("a pick of %d", l[i].N)
		}
		if first, is := firstOf(x, code, day); !is || first.Lot != l[i].Lot || first.Place != l[i].Place || first.N < l[i].N {
			t.Errorf("%v goes while %v could", l[i], first)
		} else if i < len(l)-1 && first.N != l[i].N {
			t.Errorf("%v is a part of %v, and not the last", l[i], first)
		}
		if err := x.Do(e); err != nil {
			t.Errorf("%v: %v", e, err)
		}
		sum += l[i].N
	}
	if sum != n || x.Has(code) != b.Has(code)-n || freeOf(x, code, day) != free-n {
		t.Errorf("%d went, %d are free of %d, for %d", sum, freeOf(x, code, day), free, n)
	}
}

// freeOf all lots that are good, one by one.
func freeOf(b *book.Book, code string, day int) int {
	sum := 0
	for _, l := range b.Lots(code) {
		if day <= l.Until {
			sum += b.Stock().Of(l.ID) - b.Held(l.ID)
		}
	}
	return sum
}

// firstOf all that could go: the whole of what goes from one place; found by looking at every line.
func firstOf(b *book.Book, code string, day int) (api.Line, bool) {
	var first api.Line
	var of api.Lot
	is := false
	for _, line := range b.Stock().Lines() {
		l, _ := b.Lot(line.Lot)
		free := b.Stock().Of(l.ID) - b.Held(l.ID)
		if l.Code != code || l.Until < day || free == 0 {
			continue
		}
		if !is || sooner(l, of) || l.ID == of.ID && ahead(line.Place, first.Place) {
			first, of, is = line, l, true
			first.N = min(first.N, free)
		}
	}
	return first, is
}

func sooner(a, b api.Lot) bool {
	return a.Until < b.Until || a.Until == b.Until && a.ID < b.ID
}

func ahead(a, b api.Place) bool {
	switch {
	case a.Zone != b.Zone:
		return a.Zone < b.Zone
	case a.Row != b.Row:
		return a.Row < b.Row
	case a.Row%2 == 0:
		return a.Bay > b.Bay
	}
	return a.Bay < b.Bay
}

func randomBook(r *rand.Rand, entries int) *book.Book {
	b := book.New()
	for _, code := range []string{"rye", "malt"} {
		b.Do(api.Entry{Kind: "goods", Goods: api.Goods{Code: code, Pack: 1}})
	}
	ids := []string{"l1", "l2", "l3", "l10", "a"}
	for _, id := range ids {
		b.Do(api.Entry{Kind: "lot", Lot: api.Lot{ID: id, Code: []string{"rye", "rye", "malt"}[r.Intn(3)], Until: r.Intn(4)}})
	}
	where := func() api.Place {
		return api.Place{Zone: []string{"a", "b"}[r.Intn(2)], Row: 1 + r.Intn(3), Bay: 1 + r.Intn(3)}
	}
	for range entries {
		e := api.Entry{Lot: api.Lot{ID: ids[r.Intn(len(ids))]}, N: 1 + r.Intn(9)}
		if r.Intn(20) == 0 {
			e.N = api.MaxQty - r.Intn(20)
		}
		switch e.Kind = []string{"in", "in", "in", "more", "out", "less", "move", "hold", "hold", "free"}[r.Intn(10)]; e.Kind {
		case "in", "more":
			e.To = where()
		case "out", "less":
			e.From = where()
		case "move":
			e.From, e.To = where(), where()
		}
		b.Do(e)
	}
	return b
}

func TestRandom(t *testing.T) {
	counts := map[error]int{}
	for seed := range int64(300) {
		r := rand.New(rand.NewSource(seed))
		b := randomBook(r, r.Intn(60))
		for range 20 {
			code, day := []string{"rye", "malt"}[r.Intn(2)], r.Intn(5)
			free := freeOf(b, code, day)
			if n := alloc.Free(b, code, day); n != min(free, api.MaxQty) {
				t.Errorf("seed %d: %d are free, not %d", seed, n, free)
			}
			n := 1 + r.Intn(30)
			if r.Intn(2) == 0 {
				n = free + r.Intn(2)
			}
			want := error(nil)
			switch {
			case n < 1 || n > api.MaxQty:
				want = api.ErrBound
			case n > free:
				want = api.ErrShort
			}
			counts[want]++
			l, err := alloc.Plan(b, code, n, day)
			if err != want || want != nil && len(l) > 0 {
				t.Errorf("seed %d: Plan(%s, %d, %d) = %s, %v, not %v", seed, code, n, day, told(l), err, want)
			}
			if want == nil {
				goes(t, b, code, n, day, l)
			}
		}
	}
	for _, err := range []error{nil, api.ErrBound, api.ErrShort} {
		if counts[err] < 100 {
			t.Errorf("%v came %d times", err, counts[err])
		}
	}
}

// FuzzPlan: of any book and any order.
func FuzzPlan(f *testing.F) {
	f.Add(int64(1), uint8(40), "rye", 5, 2)
	f.Add(int64(2), uint8(90), "malt", 1<<40, 0)
	f.Add(int64(3), uint8(0), "", -1, 100001)
	f.Fuzz(func(t *testing.T, seed int64, entries uint8, code string, n, day int) {
		b := randomBook(rand.New(rand.NewSource(seed)), int(entries))
		was := b.Copy()
		free := alloc.Free(b, code, day)
		l, err := alloc.Plan(b, code, n, day)
		if !book.Same(b, was) || free < 0 || free > api.MaxQty || (err == nil) != (1 <= n && n <= free) {
			t.Fatalf("%d are free, %d: %v", free, n, err)
		}
		if err == nil {
			goes(t, b, code, n, day, l)
			return
		}
		if len(l) > 0 || !errors.Is(err, api.ErrBound) && !errors.Is(err, api.ErrNone) && !errors.Is(err, api.ErrShort) {
			t.Error(told(l), err)
		}
	})
}

func ExamplePlan() {
	b := book.New()
	for _, s := range []string{"goods rye 12", "lot l1 rye 30 5", "lot l2 rye 20 5", "in l1 a-1-2 5", "in l2 a-2-3 2", "in l2 a-2-7 2", "hold l2 1"} {
		e, _ := entry.Read(s)
		b.Do(e)
	}
	l, err := alloc.Plan(b, "rye", 4, 20)
	fmt.Println(alloc.Free(b, "rye", 20), alloc.Free(b, "rye", 21), err)
	for _, e := range alloc.Out(l) {
		fmt.Println(entry.Text(e), b.Do(e))
	}
	// Output:
	// 8 5 <nil>
	// out l2 a-2-7 2 <nil>
	// out l2 a-2-3 1 <nil>
	// out l1 a-1-2 1 <nil>
}
