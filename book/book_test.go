package book_test

import (
	"errors"
	"fmt"
	"math/rand"
	"slices"
	"strings"
	"testing"

	"tithebarn/api"
	"tithebarn/book"
	"tithebarn/entry"
	"tithebarn/stock"
)

const mostSum = api.MaxQty * api.MaxLots

// of a text, which must be well.
func of(t testing.TB, text string) api.Entry {
	t.Helper()
	e, err := entry.Read(text)
	if err != nil {
		t.Fatalf("entry.Read(%q): %v", text, err)
	}
	return e
}

func all(t testing.TB, texts ...string) []api.Entry {
	t.Helper()
	var l []api.Entry
	for _, s := range texts {
		l = append(l, of(t, s))
	}
	return l
}

// made of texts, all of which must be done.
func made(t testing.TB, texts ...string) *book.Book {
	t.Helper()
	b, err := book.Replay(all(t, texts...))
	if err != nil {
		t.Fatalf("Replay(%q): %v", texts, err)
	}
	return b
}

func do(t testing.TB, b *book.Book, texts ...string) {
	t.Helper()
	for _, s := range texts {
		if err := b.Do(of(t, s)); err != nil {
			t.Fatalf("Do(%q): %v", s, err)
		}
	}
}

// view of a book: all that can be asked of it.
func view(b *book.Book) string {
	var s strings.Builder
	for _, g := range b.Goods() {
		fmt.Fprintln(&s, g, b.Sums(g.Code), b.Has(g.Code))
		for _, l := range b.Lots(g.Code) {
			again, is := b.Lot(l.ID)
			fmt.Fprintln(&s, l, again, is, b.Held(l.ID))
		}
	}
	return s.String() + b.Stock().Text()
}

// refused: the entry answers the error, bare, and leaves no trace.
func refused(t testing.TB, b *book.Book, e api.Entry, want error) {
	t.Helper()
	was, seen := b.Copy(), view(b)
	if err := b.Do(e); err != want {
		t.Errorf("Do(%v): %v, not %v", e, err, want)
	}
	if !book.Same(b, was) || view(b) != seen {
		t.Errorf("Do(%v) with an error: %q was %q", e, view(b), seen)
	}
}

// begin: two goods, three lots.
func begin() []string {
	return []string{"goods rye 6", "goods malt 1", "lot l1 rye 9 3", "lot l2 rye 4 1", "lot m1 malt 9 2"}
}

// full of lines: two of lot l1, of two pieces each, the others of lot l2.
func full(t testing.TB) *book.Book {
	t.Helper()
	b := made(t, append(begin(), "in l1 a-1-1 2", "in l1 a-1-2 2")...)
	for k := range api.MaxLines - 2 {
		do(t, b, fmt.Sprintf("in l2 z-%d-%d 2", 1+k/api.MaxBay, 1+k%api.MaxBay))
	}
	return b
}

// P60: entries are done

func TestNew(t *testing.T) {
	b := book.New()
	if view(b) != "" || len(b.Goods()) != 0 || b.Stock().Text() != "" {
		t.Errorf("%q", view(b))
	}
	other := book.New()
	do(t, other, "goods rye 6")
	if view(b) != "" {
		t.Errorf("%q: another one's", view(b))
	}
}

func TestDo(t *testing.T) {
	b := made(t, begin()...)
	for _, c := range []struct {
		text      string
		sums      book.Sums
		has, held int
		stock     string
	}{
		{"in l1 a-1-1 20", book.Sums{In: 20}, 20, 0, "a-1-1 l1 20\n"},
		{"in l1 a-1-1 1", book.Sums{In: 21}, 21, 0, "a-1-1 l1 21\n"},
		{"in l2 a-1-1 4", book.Sums{In: 25}, 25, 0, "a-1-1 l1 21\na-1-1 l2 4\n"},
		{"in m1 a-1-2 9", book.Sums{In: 25}, 25, 0, "a-1-1 l1 21\na-1-1 l2 4\na-1-2 m1 9\n"},
		{"out m1 a-1-2 9", book.Sums{In: 25}, 25, 0, "a-1-1 l1 21\na-1-1 l2 4\n"},
		{"hold l1 20", book.Sums{In: 25}, 25, 20, "a-1-1 l1 21\na-1-1 l2 4\n"},
		{"hold l1 1", book.Sums{In: 25}, 25, 21, "a-1-1 l1 21\na-1-1 l2 4\n"},
		{"move l1 a-1-1 a-2-1 21", book.Sums{In: 25}, 25, 21, "a-1-1 l2 4\na-2-1 l1 21\n"},
		{"move l1 a-2-1 a-1-1 6", book.Sums{In: 25}, 25, 21, "a-1-1 l1 6\na-1-1 l2 4\na-2-1 l1 15\n"},
		{"out l2 a-1-1 3", book.Sums{In: 25, Out: 3}, 22, 21, "a-1-1 l1 6\na-1-1 l2 1\na-2-1 l1 15\n"},
		{"free l1 19", book.Sums{In: 25, Out: 3}, 22, 2, "a-1-1 l1 6\na-1-1 l2 1\na-2-1 l1 15\n"},
		{"less l1 a-1-1 6", book.Sums{In: 25, Out: 3, Less: 6}, 16, 2, "a-1-1 l2 1\na-2-1 l1 15\n"},
		{"more l1 b-1-1 8", book.Sums{In: 25, Out: 3, More: 8, Less: 6}, 24, 2, "a-1-1 l2 1\na-2-1 l1 15\nb-1-1 l1 8\n"},
		{"more l2 a-1-1 2", book.Sums{In: 25, Out: 3, More: 10, Less: 6}, 26, 2, "a-1-1 l2 3\na-2-1 l1 15\nb-1-1 l1 8\n"},
		{"less l2 a-1-1 3", book.Sums{In: 25, Out: 3, More: 10, Less: 9}, 23, 2, "a-2-1 l1 15\nb-1-1 l1 8\n"},
		{"out l1 a-2-1 15", book.Sums{In: 25, Out: 18, More: 10, Less: 9}, 8, 2, "b-1-1 l1 8\n"},
		{"out l1 b-1-1 6", book.Sums{In: 25, Out: 24, More: 10, Less: 9}, 2, 2, "b-1-1 l1 2\n"},
		{"free l1 2", book.Sums{In: 25, Out: 24, More: 10, Less: 9}, 2, 0, "b-1-1 l1 2\n"},
		{"out l1 b-1-1 2", book.Sums{In: 25, Out: 26, More: 10, Less: 9}, 0, 0, ""},
	} {
		was := b.Copy()
		do(t, b, c.text)
		if b.Sums("rye") != c.sums || b.Has("rye") != c.has || b.Held("l1") != c.held || b.Stock().Text() != c.stock {
			t.Errorf("%s: %v %d %d %q, not %v", c.text, b.Sums("rye"), b.Has("rye"), b.Held("l1"), b.Stock().Text(), c)
		}
		if book.Same(b, was) {
			t.Errorf("%s: the same as ahead", c.text)
		}
	}
	if b.Held("l2") != 0 || b.Held("m1") != 0 || b.Sums("malt") != (book.Sums{In: 9, Out: 9}) || b.Has("malt") != 0 {
		t.Error(view(b))
	}
}

func TestDoCheck(t *testing.T) {
	b := made(t, append(begin(), "in l1 a-1-1 5")...)
	a, l1 := api.Place{Zone: "a", Row: 1, Bay: 1}, api.Lot{ID: "l1"}
	for _, c := range []struct {
		e    api.Entry
		want error
	}{
		{api.Entry{}, api.ErrKind},
		{api.Entry{Kind: "what"}, api.ErrKind},
		{api.Entry{Kind: "goods"}, api.ErrName},
		{api.Entry{Kind: "goods", Goods: api.Goods{Code: "rye"}}, api.ErrBound},
		{api.Entry{Kind: "goods", Goods: api.Goods{Code: "rye", Pack: 6}, N: 1}, api.ErrShape},
		{api.Entry{Kind: "lot", Lot: l1}, api.ErrName},
		{api.Entry{Kind: "lot", Lot: api.Lot{ID: "l1", Code: "rye", Until: -1}}, api.ErrBound},
		{api.Entry{Kind: "lot", Lot: api.Lot{ID: "l1", Code: "rye"}, N: 1}, api.ErrShape},
		{api.Entry{Kind: "in", Lot: api.Lot{ID: "L"}, To: a, N: 1}, api.ErrName},
		{api.Entry{Kind: "in", Lot: api.Lot{ID: "zz"}, To: a}, api.ErrBound},
		{api.Entry{Kind: "in", Lot: api.Lot{ID: "zz"}, To: a, N: api.MaxQty + 1}, api.ErrBound},
		{api.Entry{Kind: "in", Lot: l1, To: a, N: -1 << 63}, api.ErrBound},
		{api.Entry{Kind: "in", Lot: l1, To: a, N: 1<<63 - 1}, api.ErrBound},
		{api.Entry{Kind: "in", Lot: api.Lot{ID: "l1", Code: "rye"}, To: a, N: 1}, api.ErrShape},
		{api.Entry{Kind: "more", Lot: l1, N: 1}, api.ErrName},
		{api.Entry{Kind: "out", Lot: l1, From: a, N: -1}, api.ErrBound},
		{api.Entry{Kind: "less", Lot: l1, From: api.Place{Zone: "a", Row: 1}, N: 1}, api.ErrBound},
		{api.Entry{Kind: "move", Lot: l1, From: a, To: a, N: 1}, api.ErrShape},
		{api.Entry{Kind: "hold", Lot: l1, To: a, N: 1}, api.ErrShape},
		{api.Entry{Kind: "hold", Lot: l1, N: -1}, api.ErrBound},
		{api.Entry{Kind: "free", Lot: l1}, api.ErrBound},
		{api.Entry{Kind: "free", Lot: l1, N: -1}, api.ErrBound},
	} {
		refused(t, b, c.e, c.want)
	}
}

func TestDoGoods(t *testing.T) {
	b := book.New()
	do(t, b, "goods rye 6")
	refused(t, b, of(t, "goods rye 6"), api.ErrExist)
	refused(t, b, of(t, "goods rye 7"), api.ErrExist)
	for k := 1; k < api.MaxGoods; k++ {
		do(t, b, fmt.Sprintf("goods g%d %d", k, k))
	}
	if len(b.Goods()) != api.MaxGoods {
		t.Error(len(b.Goods()))
	}
	refused(t, b, of(t, "goods malt 1"), api.ErrFull)
	refused(t, b, of(t, "goods rye 1"), api.ErrExist)
}

func TestDoLot(t *testing.T) {
	b := book.New()
	refused(t, b, of(t, "lot l1 rye 9 3"), api.ErrNone)
	do(t, b, "goods rye 6", "goods malt 1", "lot l1 rye 9 3", "lot rye malt 9 3")
	refused(t, b, of(t, "lot l1 rye 9 3"), api.ErrExist)
	refused(t, b, of(t, "lot l1 malt 8 2"), api.ErrExist)
	refused(t, b, of(t, "lot l1 zz 8 2"), api.ErrExist)
	refused(t, b, of(t, "lot l2 zz 8 2"), api.ErrNone)
	refused(t, b, of(t, "lot l2 l1 8 2"), api.ErrNone)
	for k := 2; k < api.MaxLots; k++ {
		do(t, b, fmt.Sprintf("lot x%d %s 1 1", k, []string{"rye", "malt"}[k%2]))
	}
	if len(b.Lots("rye"))+len(b.Lots("malt")) != api.MaxLots {
		t.Error(len(b.Lots("rye")), len(b.Lots("malt")))
	}
	refused(t, b, of(t, "lot y rye 1 1"), api.ErrFull)
	refused(t, b, of(t, "lot y zz 1 1"), api.ErrNone)
	refused(t, b, of(t, "lot l1 zz 1 1"), api.ErrExist)
}

func TestDoNone(t *testing.T) {
	b := full(t)
	for _, s := range []string{
		"in zz b-1-1 1", "more zz b-1-1 1", "out zz a-1-1 1", "less zz a-1-1 1", "move zz a-1-1 b-1-1 1", "hold zz 1", "free zz 1",
		"in rye b-1-1 1", "out rye a-1-1 1", "hold rye 1",
	} {
		refused(t, b, of(t, s), api.ErrNone)
	}
}

func TestDoStock(t *testing.T) {
	b := full(t)
	for _, kind := range []string{"in", "more"} {
		refused(t, b, of(t, kind+" l1 b-1-1 1"), api.ErrFull)
		refused(t, b, of(t, kind+" m1 a-1-1 1"), api.ErrFull)
		refused(t, b, of(t, kind+" l1 a-1-1 1099511627776"), api.ErrBound)
		refused(t, b, of(t, kind+" l1 b-1-1 1099511627776"), api.ErrBound)
		refused(t, b, of(t, kind+" l1 a-1-1 1099511627773"), api.ErrBound)
		do(t, b.Copy(), kind+" l1 a-1-1 1099511627772")
	}
	for _, kind := range []string{"out", "less"} {
		refused(t, b, of(t, kind+" l1 a-1-1 3"), api.ErrShort)
		refused(t, b, of(t, kind+" l1 b-1-1 1"), api.ErrShort)
		refused(t, b, of(t, kind+" l2 a-1-1 1"), api.ErrShort)
		refused(t, b, of(t, kind+" m1 a-1-1 1"), api.ErrShort)
		do(t, b.Copy(), kind+" l1 a-1-1 2")
	}
	refused(t, b, of(t, "move l1 a-1-1 a-1-2 3"), api.ErrShort)
	refused(t, b, of(t, "move l1 a-1-1 b-1-1 3"), api.ErrShort)
	refused(t, b, of(t, "move l1 b-1-1 a-1-1 1"), api.ErrShort)
	refused(t, b, of(t, "move l1 a-1-1 b-1-1 1"), api.ErrFull)
	do(t, b, "move l1 a-1-1 b-1-1 2", "move l1 b-1-1 a-1-2 2", "in m1 a-1-1 1")
}

func TestDoHeld(t *testing.T) {
	b := made(t, append(begin(), "in l1 a-1-1 5", "in l1 b-1-1 3", "in l2 a-1-1 9")...)
	refused(t, b, of(t, "free l1 1"), api.ErrShort)
	refused(t, b, of(t, "hold m1 1"), api.ErrShort)
	refused(t, b, of(t, "hold l1 9"), api.ErrShort)
	refused(t, b, of(t, "hold l1 1099511627776"), api.ErrShort)
	do(t, b, "hold l1 6")
	refused(t, b, of(t, "hold l1 3"), api.ErrShort)
	refused(t, b, of(t, "free l1 7"), api.ErrShort)
	refused(t, b, of(t, "free l2 1"), api.ErrShort)
	refused(t, b, of(t, "free l1 1099511627776"), api.ErrShort)
	for _, kind := range []string{"out", "less"} {
		refused(t, b, of(t, kind+" l1 a-1-1 3"), api.ErrShort)
		refused(t, b, of(t, kind+" l1 b-1-1 3"), api.ErrShort)
		refused(t, b, of(t, kind+" l1 a-1-1 6"), api.ErrShort)
		do(t, b.Copy(), kind+" l1 a-1-1 2", kind+" l2 a-1-1 9")
		do(t, b.Copy(), kind+" l1 b-1-1 2")
		do(t, b.Copy(), "more l1 a-1-1 1", kind+" l1 b-1-1 3")
	}
	do(t, b, "hold l1 2", "move l1 a-1-1 b-1-1 5", "free l1 8")
	refused(t, b, of(t, "free l1 1"), api.ErrShort)
	do(t, b, "out l1 b-1-1 8", "hold l2 9")
}

// A lot may be as great as MaxQty, and be held as a whole.
func TestDoHeldMost(t *testing.T) {
	b := made(t, append(begin(), "in l1 a-1-1 1099511627776", "hold l1 1099511627776")...)
	refused(t, b, of(t, "hold l1 1099511627776"), api.ErrShort)
	refused(t, b, of(t, "hold l1 1"), api.ErrShort)
	refused(t, b, of(t, "out l1 a-1-1 1"), api.ErrShort)
	refused(t, b, of(t, "out l1 a-1-1 1099511627776"), api.ErrShort)
	do(t, b, "free l1 1099511627776", "out l1 a-1-1 1099511627776")
}

// atBound: rye's pieces, all gone again, came and went by these kinds as often as they may.
func atBound(t testing.TB, come, leave string) *book.Book {
	t.Helper()
	b := made(t, begin()...)
	for k := range api.MaxLots {
		l := []string{"l1", "l2"}[k%2]
		do(t, b, come+" "+l+" a-1-1 1099511627776", leave+" "+l+" a-1-1 1099511627776")
	}
	return b
}

func TestSumsBound(t *testing.T) {
	for _, c := range []struct {
		come, leave, otherCome, otherLeave string
		want                               book.Sums
	}{
		{"in", "out", "more", "less", book.Sums{In: mostSum, Out: mostSum}},
		{"in", "less", "more", "out", book.Sums{In: mostSum, Less: mostSum}},
		{"more", "out", "in", "less", book.Sums{More: mostSum, Out: mostSum}},
		{"more", "less", "in", "out", book.Sums{More: mostSum, Less: mostSum}},
	} {
		b := atBound(t, c.come, c.leave)
		if b.Sums("rye") != c.want || b.Has("rye") != 0 {
			t.Error(c, b.Sums("rye"))
		}
		for _, s := range []string{" l1 a-1-1 1", " l2 a-1-1 1", " l1 a-1-1 1099511627776"} {
			refused(t, b, of(t, c.come+s), api.ErrBound)
		}
		refused(t, b, of(t, c.leave+" l1 a-1-1 1"), api.ErrShort)
		do(t, b, c.otherCome+" l1 a-1-1 9")
		refused(t, b, of(t, c.leave+" l1 a-1-1 1"), api.ErrBound)
		refused(t, b, of(t, c.leave+" l1 a-1-1 10"), api.ErrShort)
		do(t, b, "hold l1 4", "move l1 a-1-1 b-1-1 3")
		refused(t, b, of(t, c.leave+" l1 a-1-1 6"), api.ErrShort)
		refused(t, b, of(t, c.leave+" l1 b-1-1 3"), api.ErrBound)
		do(t, b, c.otherLeave+" l1 b-1-1 3", "free l1 4", c.otherLeave+" l1 a-1-1 6")
		do(t, b, c.come+" m1 a-1-1 5", c.leave+" m1 a-1-1 5")
	}
}

// A sum may be MaxQty times MaxLots, not one more.
func TestSumsBoundByOne(t *testing.T) {
	b := made(t, append(begin(), "in l1 a-1-1 1", "out l1 a-1-1 1")...)
	for range api.MaxLots - 1 {
		do(t, b, "in l1 a-1-1 1099511627776", "out l1 a-1-1 1099511627776")
	}
	refused(t, b, of(t, "in l1 a-1-1 1099511627776"), api.ErrBound)
	do(t, b, "in l1 a-1-1 1099511627775", "more l1 a-1-1 1")
	refused(t, b, of(t, "out l1 a-1-1 1099511627776"), api.ErrBound)
	do(t, b, "out l1 a-1-1 1099511627775")
	if b.Sums("rye") != (book.Sums{In: mostSum, Out: mostSum, More: 1}) {
		t.Error(b.Sums("rye"))
	}
}

// The stock's errors come ahead of the sums'.
func TestSumsBoundBehindStock(t *testing.T) {
	b := atBound(t, "in", "out")
	for k := range api.MaxLines {
		do(t, b, fmt.Sprintf("more l2 z-%d-%d 2", 1+k/api.MaxBay, 1+k%api.MaxBay))
	}
	refused(t, b, of(t, "in l1 a-1-1 1"), api.ErrFull)
	refused(t, b, of(t, "in l2 z-1-1 1"), api.ErrBound)
	refused(t, b, of(t, "in l2 a-1-1 1"), api.ErrFull)
}

// P61: what a book tells

func TestReplay(t *testing.T) {
	texts := append(begin(), "in l1 a-1-1 5", "hold l1 2", "out l1 a-1-1 3")
	l := all(t, texts...)
	was := slices.Clone(l)
	b, err := book.Replay(l)
	if err != nil || !slices.Equal(l, was) {
		t.Error(err, l)
	}
	step := book.New()
	do(t, step, texts...)
	if !book.Same(b, step) || view(b) != view(step) {
		t.Errorf("%q, not %q", view(b), view(step))
	}
	clear(l)
	if !book.Same(b, step) || view(b) != view(step) {
		t.Error("the list is kept")
	}
}

func TestReplayNothing(t *testing.T) {
	for _, l := range [][]api.Entry{nil, {}} {
		b, err := book.Replay(l)
		if err != nil || b == nil || !book.Same(b, book.New()) {
			t.Error(b, err)
		}
	}
}

func TestReplayFault(t *testing.T) {
	for _, c := range []struct {
		at   int
		want error
		l    []string
	}{
		{0, api.ErrNone, []string{"lot l1 rye 9 3", "goods rye 6"}},
		{1, api.ErrExist, []string{"goods rye 6", "goods rye 6", "goods rye 6"}},
		{5, api.ErrShort, append(begin(), "out l1 a-1-1 1", "in zz a-1-1 1")},
		{7, api.ErrShort, append(begin(), "in l1 a-1-1 5", "hold l1 1", "less l1 a-1-1 5")},
		{6, api.ErrBound, append(begin(), "in l1 a-1-1 1", "in l1 a-1-1 1099511627776")},
	} {
		b, err := book.Replay(all(t, c.l...))
		fault, is := err.(*api.Fault)
		if b != nil || !is || *fault != (api.Fault{At: c.at, Err: c.want}) || !errors.Is(err, c.want) {
			t.Errorf("%v: %v %v", c, b, err)
		}
	}
	b, err := book.Replay([]api.Entry{of(t, "goods rye 6"), {Kind: "what"}})
	if fault, is := err.(*api.Fault); b != nil || !is || *fault != (api.Fault{At: 1, Err: api.ErrKind}) {
		t.Error(b, err)
	}
}

// Behind the list's length there is nothing that is read.
func TestReplayBehindLength(t *testing.T) {
	l := all(t, "goods rye 6", "goods rye 6")
	if b, err := book.Replay(l[:1]); err != nil || len(b.Goods()) != 1 {
		t.Error(b, err)
	}
}

func TestNoneSuch(t *testing.T) {
	b := made(t, append(begin(), "in l1 a-1-1 5", "hold l1 2")...)
	for _, name := range []string{"zz", "", "l", "l11", "RYE", "\xff", strings.Repeat("x", 1000)} {
		l, is := b.Lot(name)
		if b.Sums(name) != (book.Sums{}) || b.Has(name) != 0 || b.Held(name) != 0 || l != (api.Lot{}) || is || len(b.Lots(name)) != 0 {
			t.Errorf("%q: %v %d %d %v %v %v", name, b.Sums(name), b.Has(name), b.Held(name), l, is, b.Lots(name))
		}
	}
	// A lot's ID is no code, a code no ID.
	if _, is := b.Lot("rye"); is || b.Held("rye") != 0 || b.Has("l1") != 0 || b.Sums("l1") != (book.Sums{}) || len(b.Lots("l1")) != 0 {
		t.Error(view(b))
	}
}

func TestLot(t *testing.T) {
	b := made(t, "goods rye 6", "goods malt 1", "lot l1 rye 9 3", "lot l2 malt 0 1048576", "lot rye malt 100000 0")
	for _, want := range []api.Lot{
		{ID: "l1", Code: "rye", Until: 9, Cost: 3},
		{ID: "l2", Code: "malt", Until: 0, Cost: api.MaxCost},
		{ID: "rye", Code: "malt", Until: api.MaxDay, Cost: 0},
	} {
		if l, is := b.Lot(want.ID); l != want || !is {
			t.Error(l, is, want)
		}
	}
}

func TestLots(t *testing.T) {
	b := made(t, "goods rye 6", "goods malt 1", "goods oats 1")
	for _, s := range []string{"b rye 5", "a rye 5", "c rye 4", "a0 rye 5", "0 rye 5", "z rye 0", "d rye 100000", "y malt 1", "x malt 1"} {
		do(t, b, "lot "+s+" 1")
	}
	for code, want := range map[string]string{"rye": "z c 0 a a0 b d", "malt": "x y", "oats": ""} {
		var ids []string
		for _, l := range b.Lots(code) {
			if again, is := b.Lot(l.ID); !is || again != l || l.Code != code {
				t.Error(code, l, again)
			}
			ids = append(ids, l.ID)
		}
		if got := strings.Join(ids, " "); got != want {
			t.Errorf("%s: %q, not %q", code, got, want)
		}
	}
}

func TestGoods(t *testing.T) {
	b := made(t, "goods rye 6", "goods b 2", "goods a0 3", "goods 9 4", "goods a 5", "goods malt 1000")
	want := []api.Goods{{Code: "9", Pack: 4}, {Code: "a", Pack: 5}, {Code: "a0", Pack: 3}, {Code: "b", Pack: 2}, {Code: "malt", Pack: 1000}, {Code: "rye", Pack: 6}}
	if got := b.Goods(); !slices.Equal(got, want) {
		t.Error(got)
	}
	for _, g := range want {
		if got, is := b.GoodsOf(g.Code); got != g || !is {
			t.Error(got, is, g)
		}
	}
	for _, code := range []string{"", "mal", "malt ", "MALT", "zz", "\xff"} {
		if g, is := b.GoodsOf(code); g != (api.Goods{}) || is {
			t.Errorf("%q: %v", code, g)
		}
	}
}

// What a map's order could change is told in one order, however often it is asked for.
func TestAlwaysAlike(t *testing.T) {
	b := full(t)
	for k := 2; k < api.MaxGoods; k++ {
		do(t, b, fmt.Sprintf("goods g%d 1", k))
	}
	for k := 3; k < api.MaxLots; k++ {
		do(t, b, fmt.Sprintf("lot x%d rye %d 1", k, k%5))
	}
	seen := view(b)
	for range 20 {
		if view(b) != seen || view(b.Copy()) != seen {
			t.Fatal(view(b))
		}
	}
}

// What is answered is new memory.
func TestAnswersAreNew(t *testing.T) {
	b := made(t, append(begin(), "in l1 a-1-1 5", "hold l1 2")...)
	seen := view(b)
	clear(b.Goods())
	clear(b.Lots("rye"))
	_ = append(b.Goods()[:0], api.Goods{Code: "x"})
	s := b.Stock()
	if err := s.Take(api.Place{Zone: "a", Row: 1, Bay: 1}, "l1", 5); err != nil {
		t.Error(err)
	}
	if err := s.Put(api.Place{Zone: "b", Row: 1, Bay: 1}, "l2", 5); err != nil {
		t.Error(err)
	}
	if view(b) != seen {
		t.Errorf("%q was %q", view(b), seen)
	}
}

// A stock that was handed out stays as it was.
func TestStockStays(t *testing.T) {
	b := made(t, append(begin(), "in l1 a-1-1 5")...)
	s := b.Stock()
	do(t, b, "in l1 a-1-1 5", "move l1 a-1-1 b-1-1 4", "more l2 c-1-1 1")
	if s.Text() != "a-1-1 l1 5\n" {
		t.Errorf("%q", s.Text())
	}
}

func TestCopy(t *testing.T) {
	later := []string{"goods oats 1", "lot o1 oats 1 1", "in o1 a-1-1 7", "hold o1 2", "in l1 a-1-1 1", "out l1 a-1-1 2", "more l1 a-1-1 3", "less l1 a-1-1 1", "move l1 a-1-1 b-1-1 1", "free l1 1"}
	b := made(t, append(begin(), "in l1 a-1-1 5", "hold l1 2")...)
	seen := view(b)
	c := b.Copy()
	if view(c) != seen || !book.Same(b, c) || b == c {
		t.Errorf("%q, not %q", view(c), seen)
	}
	do(t, c, later...)
	if view(b) != seen || book.Same(b, c) {
		t.Errorf("of a copy: %q was %q", view(b), seen)
	}
	c = b.Copy()
	do(t, b, later...)
	if view(c) != seen || book.Same(b, c) {
		t.Errorf("of what was copied: %q was %q", view(c), seen)
	}
}

func TestSame(t *testing.T) {
	for _, c := range []struct {
		a, b string
		same bool
	}{
		{"", "", true},
		{"goods rye 6", "", false},
		{"goods rye 6", "goods rye 6", true},
		{"goods rye 6", "goods rye 7", false},
		{"goods rye 6", "goods malt 6", false},
		{"goods rye 6,goods malt 1", "goods malt 1,goods rye 6", true},
		{"goods rye 6,goods malt 1", "goods rye 6", false},
		{"+", "+,lot l3 rye 1 1", false},
		{"+,lot l3 rye 1 1", "+,lot l3 rye 1 1", true},
		{"+,lot l3 rye 1 1", "+,lot l3 rye 1 2", false},
		{"+,lot l3 rye 1 1", "+,lot l3 rye 2 1", false},
		{"+,lot l3 rye 1 1", "+,lot l3 malt 1 1", false},
		{"+,lot l3 rye 1 1", "+,lot l4 rye 1 1", false},
		{"+,lot l3 rye 1 1,lot l4 rye 1 1", "+,lot l4 rye 1 1,lot l3 rye 1 1", true},
		{"+,in l1 a-1-1 5", "+", false},
		{"+,in l1 a-1-1 5", "+,in l1 a-1-1 2,in l1 a-1-1 3", true},
		{"+,in l1 a-1-1 5", "+,in l1 a-1-2 5", false},
		{"+,in l1 a-1-1 5", "+,in l2 a-1-1 5", false},
		{"+,in l1 a-1-1 5", "+,in l1 a-1-1 4", false},
		{"+,in l1 a-1-1 5", "+,more l1 a-1-1 5", false},
		{"+,in l1 a-1-1 5", "+,in l1 a-1-1 3,in l1 a-1-2 2", false},
		{"+,in l1 a-1-1 5,in l2 a-1-2 3", "+,in l2 a-1-2 3,in l1 a-1-1 5", true},
		{"+,in l1 a-1-1 5,move l1 a-1-1 b-1-1 5,move l1 b-1-1 a-1-1 5", "+,in l1 a-1-1 5", true},
		{"+,in l1 a-1-1 5,move l1 a-1-1 b-1-1 5", "+,in l1 b-1-1 5", true},
		{"+,in l1 a-1-1 5,out l1 a-1-1 5", "+", false},
		{"+,in l1 a-1-1 5,out l1 a-1-1 5", "+,in l2 b-1-1 5,out l2 b-1-1 5", true},
		{"+,in l1 a-1-1 5,out l1 a-1-1 5", "+,in l1 a-1-1 5,less l1 a-1-1 5", false},
		{"+,in l1 a-1-1 5,more l1 a-1-1 5", "+,more l1 a-1-1 5,in l1 a-1-1 5", true},
		{"+,in l1 a-1-1 5,hold l1 2", "+,in l1 a-1-1 5", false},
		{"+,in l1 a-1-1 5,hold l1 2", "+,in l1 a-1-1 5,hold l1 3", false},
		{"+,in l1 a-1-1 5,hold l1 2", "+,in l1 a-1-1 5,hold l1 3,free l1 1", true},
		{"+,in l1 a-1-1 5,hold l1 2,free l1 2", "+,in l1 a-1-1 5", true},
		{"+,in l1 a-1-1 5,in l2 a-1-1 5,hold l1 2", "+,in l1 a-1-1 5,in l2 a-1-1 5,hold l2 2", false},
	} {
		a, b := made(t, texts(c.a)...), made(t, texts(c.b)...)
		if book.Same(a, b) != c.same || book.Same(b, a) != c.same || (view(a) == view(b)) != c.same {
			t.Errorf("%q, %q: %v %v", c.a, c.b, book.Same(a, b), book.Same(b, a))
		}
		if !book.Same(a, a) || book.Same(a, nil) || book.Same(nil, a) {
			t.Error(c.a)
		}
	}
	if !book.Same(nil, nil) {
		t.Error("nil")
	}
}

// texts of a list: + is how a book begins.
func texts(s string) []string {
	if s == "" {
		return nil
	}
	l := strings.Split(s, ",")
	if l[0] == "+" {
		return append(begin(), l[1:]...)
	}
	return l
}

// Nil, as Replay answers it, and a book that nobody made have nothing, and nothing panics.
func TestNobodysBooks(t *testing.T) {
	none, _ := book.Replay([]api.Entry{{}})
	for _, b := range []*book.Book{none, {}} {
		if view(b) != "" || !book.Same(b.Copy(), book.New()) || b.Has("rye") != 0 || b.Held("l1") != 0 || b.Sums("rye") != (book.Sums{}) || len(b.Lots("rye")) != 0 {
			t.Errorf("%q", view(b))
		}
		if l, is := b.Lot("l1"); is || l != (api.Lot{}) {
			t.Error(l)
		}
		if g, is := b.GoodsOf("rye"); is || g != (api.Goods{}) {
			t.Error(g)
		}
		if err := b.Stock().Put(api.Place{Zone: "a", Row: 1, Bay: 1}, "l1", 1); err != nil {
			t.Error(err)
		}
	}
	if err := none.Do(of(t, "goods rye 6")); err != api.ErrShape {
		t.Error(err)
	}
	var zero book.Book
	if !book.Same(&zero, book.New()) || !book.Same(book.New(), &zero) || book.Same(&zero, nil) {
		t.Error("zero")
	}
	do(t, &zero, begin()...)
	if !book.Same(&zero, made(t, begin()...)) {
		t.Error(view(&zero))
	}
}

// P62: Has is In less Out, and More less Less; what is held is there

func always(t testing.TB, b *book.Book) {
	t.Helper()
	s := b.Stock()
	lines := 0
	for _, g := range b.Goods() {
		has := 0
		for _, l := range b.Lots(g.Code) {
			n := s.Of(l.ID)
			if held := b.Held(l.ID); held < 0 || held > n {
				t.Errorf("%v: %d are held of %d", l, held, n)
			}
			has += n
			lines += linesOf(s, l.ID)
		}
		x := b.Sums(g.Code)
		if b.Has(g.Code) != has || has != x.In-x.Out+x.More-x.Less {
			t.Errorf("%v: has %d, %d of its lots, of %v", g, b.Has(g.Code), has, x)
		}
		if min(x.In, x.Out, x.More, x.Less) < 0 || max(x.In, x.Out, x.More, x.Less) > mostSum {
			t.Error(g, x)
		}
	}
	if all := len(s.Lines()); lines != all {
		t.Errorf("%d lines, %d of them of lots", all, lines)
	}
}

func linesOf(s *stock.Stock, id string) int {
	n := 0
	for _, l := range s.Lines() {
		if l.Lot == id {
			n++
		}
	}
	return n
}

// past is a book as slow as can be: it keeps all that was done, and goes through it for each question.
type past []api.Entry

func (p past) at(where api.Place, id string) int {
	n := 0
	for _, e := range p {
		if e.Kind == "goods" || e.Kind == "lot" || e.Kind == "hold" || e.Kind == "free" || e.Lot.ID != id {
			continue
		}
		if e.To == where {
			n += e.N
		}
		if e.From == where {
			n -= e.N
		}
	}
	return n
}

func (p past) of(id string) int {
	return p.sum("in", id) + p.sum("more", id) - p.sum("out", id) - p.sum("less", id)
}

func (p past) sum(kind string, ids ...string) int {
	n := 0
	for _, e := range p {
		if e.Kind == kind && slices.Contains(ids, e.Lot.ID) {
			n += e.N
		}
	}
	return n
}

func (p past) ids(code string) []string {
	var ids []string
	for _, e := range p {
		if e.Kind == "lot" && e.Lot.Code == code {
			ids = append(ids, e.Lot.ID)
		}
	}
	return ids
}

func (p past) find(is func(e api.Entry) bool) (api.Entry, bool) {
	if i := slices.IndexFunc(p, is); i >= 0 {
		return p[i], true
	}
	return api.Entry{}, false
}

func (p past) lot(id string) (api.Lot, bool) {
	e, is := p.find(func(e api.Entry) bool { return e.Kind == "lot" && e.Lot.ID == id })
	return e.Lot, is
}

func (p past) hasGoods(code string) bool {
	_, is := p.find(func(e api.Entry) bool { return e.Kind == "goods" && e.Goods.Code == code })
	return is
}

func (p past) want(e api.Entry) error {
	if err := entry.Check(e); err != nil {
		return err
	}
	l, is := p.lot(e.Lot.ID)
	switch {
	case e.Kind == "goods" && p.hasGoods(e.Goods.Code), e.Kind == "lot" && is:
		return api.ErrExist
	case e.Kind == "goods":
		return nil
	case e.Kind == "lot" && p.hasGoods(e.Lot.Code):
		return nil
	case !is:
		return api.ErrNone
	}
	held := p.sum("hold", l.ID) - p.sum("free", l.ID)
	short, bound := false, false
	switch e.Kind {
	case "in", "more":
		bound = p.of(l.ID)+e.N > api.MaxQty
	case "out", "less":
		short = p.at(e.From, l.ID) < e.N || p.of(l.ID)-e.N < held
	case "move":
		short = p.at(e.From, l.ID) < e.N
	case "hold":
		short = held+e.N > p.of(l.ID)
	case "free":
		short = held < e.N
	}
	counted := slices.Contains([]string{"in", "out", "more", "less"}, e.Kind)
	switch {
	case short:
		return api.ErrShort
	case bound, counted && p.sum(e.Kind, p.ids(l.Code)...)+e.N > mostSum:
		return api.ErrBound
	}
	return nil
}

func (p past) same(t testing.TB, b *book.Book) {
	t.Helper()
	for _, g := range b.Goods() {
		ids := p.ids(g.Code)
		want := book.Sums{In: p.sum("in", ids...), Out: p.sum("out", ids...), More: p.sum("more", ids...), Less: p.sum("less", ids...)}
		if b.Sums(g.Code) != want || len(b.Lots(g.Code)) != len(ids) {
			t.Errorf("%v: %v, not %v", g, b.Sums(g.Code), want)
		}
		for _, id := range ids {
			if held := p.sum("hold", id) - p.sum("free", id); b.Held(id) != held {
				t.Errorf("%s: %d are held, not %d", id, b.Held(id), held)
			}
			if n := b.Stock().Of(id); n != p.of(id) {
				t.Errorf("%s: %d, not %d", id, n, p.of(id))
			}
		}
	}
	for _, l := range b.Stock().Lines() {
		if n := p.at(l.Place, l.Lot); n != l.N {
			t.Errorf("%v, not %d", l, n)
		}
	}
}

func randomPlace(r *rand.Rand) api.Place {
	return api.Place{Zone: []string{"a", "b"}[r.Intn(2)], Row: 1, Bay: 1 + r.Intn(2)}
}

func randomEntry(r *rand.Rand) api.Entry {
	kinds := []string{"in", "in", "in", "out", "out", "more", "more", "less", "less", "move", "move", "hold", "free", "goods", "lot", "what"}
	e := api.Entry{Kind: kinds[r.Intn(len(kinds))]}
	code := []string{"rye", "malt", "oats", "Rye"}[min(r.Intn(7), 3)]
	id := []string{"l1", "l2", "m1", "o1", "zz"}[r.Intn(5)]
	switch e.Kind {
	case "goods":
		e.Goods = api.Goods{Code: code, Pack: r.Intn(5)}
		return e
	case "lot":
		e.Lot = api.Lot{ID: id, Code: code, Until: r.Intn(5), Cost: r.Intn(5) - r.Intn(2)}
		return e
	case "in", "more":
		e.To = randomPlace(r)
	case "out", "less":
		e.From = randomPlace(r)
	case "move":
		e.From, e.To = randomPlace(r), randomPlace(r)
	}
	e.Lot.ID, e.N = id, r.Intn(6)
	if r.Intn(3) == 0 {
		e.N = api.MaxQty - r.Intn(3) + r.Intn(2)
	}
	return e
}

func TestRandom(t *testing.T) {
	counts := map[error]int{}
	for seed := range int64(30) {
		r := rand.New(rand.NewSource(seed))
		b, p := book.New(), past{}
		for range 300 {
			e := randomEntry(r)
			want := p.want(e)
			counts[want]++
			if want != nil {
				refused(t, b, e, want)
				continue
			}
			if err := b.Do(e); err != nil {
				t.Fatalf("seed %d: Do(%v): %v", seed, e, err)
			}
			p = append(p, e)
			always(t, b)
			p.same(t, b)
		}
		again, err := book.Replay(p)
		if err != nil || !book.Same(again, b) || view(again) != view(b) {
			t.Fatalf("seed %d: %v %q, not %q", seed, err, view(again), view(b))
		}
	}
	for _, err := range []error{nil, api.ErrKind, api.ErrName, api.ErrBound, api.ErrNone, api.ErrExist, api.ErrShort} {
		if counts[err] < 50 {
			t.Errorf("%v came %d times", err, counts[err])
		}
	}
}

// FuzzBook: entries of any bytes.
func FuzzBook(f *testing.F) {
	f.Add("goods rye 6\nlot l1 rye 9 3\nin l1 a-1-1 5\nhold l1 2\nmove l1 a-1-1 b-1-1 4\nout l1 b-1-1 3")
	f.Add("goods rye 6\ngoods malt 1\nlot l1 malt 9 3\nlot l2 rye 1 1\nmore l2 a-1-1 1099511627776\nin l2 a-1-1 1\nless l2 a-1-1 5\nfree l1 1")
	f.Add("in l1 a-1-1 5\nwhat\n\nhold l1 1")
	f.Fuzz(func(t *testing.T, s string) {
		b, p := book.New(), past{}
		for _, line := range strings.Split(s, "\n")[:min(40, 1+strings.Count(s, "\n"))] {
			e, err := entry.Read(line)
			if err != nil {
				e = api.Entry{Kind: line, N: len(line)}
			}
			was := b.Copy()
			if err := b.Do(e); (err == nil) == book.Same(was, b) {
				t.Errorf("Do(%v): %v", e, err)
			} else if err == nil {
				p = append(p, e)
			}
			always(t, b)
		}
		if again, err := book.Replay(p); err != nil || !book.Same(again, b) {
			t.Error(err)
		}
	})
}

func ExampleBook() {
	b := book.New()
	for _, s := range []string{"goods rye 12", "lot l1 rye 30 5", "in l1 a-1-2 5", "hold l1 2", "out l1 a-1-2 4", "out l1 a-1-2 3"} {
		e, _ := entry.Read(s)
		if err := b.Do(e); err != nil {
			fmt.Println(s+":", err)
		}
	}
	fmt.Println(b.Sums("rye"), b.Has("rye"), b.Held("l1"))
	fmt.Print(b.Stock().Text())
	// Output:
	// out l1 a-1-2 4: tithebarn: short
	// {5 3 0 0} 2 2
	// a-1-2 l1 2
}
