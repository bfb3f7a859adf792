package cost_test

import (
	"errors"
	"fmt"
	"math/rand"
	"slices"
	"strconv"
	"strings"
	"sync"
	"testing"

	"tithebarn/api"
	"tithebarn/book"
	"tithebarn/cost"
	"tithebarn/entry"
)

const (
	least = -1 << 63
	most  = 1<<63 - 1
)

// view of layers: all that can be asked of them.
func view(l *cost.Layers) string {
	return fmt.Sprintf("%s: %d, %d", l.Text(), l.Has(), l.Worth())
}

// layers of pairs: a number and what each cost; all must come.
func layers(t testing.TB, pairs ...int) *cost.Layers {
	t.Helper()
	l := cost.New()
	for i := 0; i < len(pairs); i += 2 {
		if err := l.In(pairs[i], pairs[i+1]); err != nil {
			t.Fatalf("In(%d, %d): %v", pairs[i], pairs[i+1], err)
		}
	}
	return l
}

// entries of texts, which must be well.
func entries(t testing.TB, texts ...string) []api.Entry {
	t.Helper()
	var l []api.Entry
	for _, s := range texts {
		e, err := entry.Read(s)
		if err != nil {
			t.Fatalf("entry.Read(%q): %v", s, err)
		}
		l = append(l, e)
	}
	return l
}

// P80: layers

func TestNew(t *testing.T) {
	l := cost.New()
	if view(l) != ": 0, 0" {
		t.Error(view(l))
	}
	layers(t, 3, 5)
	if view(l) != ": 0, 0" || view(cost.New()) != ": 0, 0" {
		t.Error("another one's")
	}
}

func TestIn(t *testing.T) {
	for _, c := range []struct {
		pairs []int
		want  string
	}{
		{[]int{1, 0}, "1@0: 1, 0"},
		{[]int{3, 5}, "3@5: 3, 15"},
		// The last one becomes larger, if it has that cost; one ahead of it does not.
		{[]int{3, 5, 2, 5}, "5@5: 5, 25"},
		{[]int{3, 5, 2, 5, 1, 5}, "6@5: 6, 30"},
		{[]int{3, 5, 2, 6}, "3@5 2@6: 5, 27"},
		{[]int{3, 5, 2, 4}, "3@5 2@4: 5, 23"},
		{[]int{3, 5, 2, 6, 1, 5}, "3@5 2@6 1@5: 6, 32"},
		{[]int{3, 5, 2, 6, 1, 5, 4, 5}, "3@5 2@6 5@5: 10, 52"},
		{[]int{3, 0, 2, 0, 1, 1, 1, 0}, "5@0 1@1 1@0: 7, 1"},
		{[]int{1, api.MaxCost}, "1@1048576: 1, 1048576"},
		{[]int{api.MaxQty, 0}, "1099511627776@0: 1099511627776, 0"},
		{[]int{api.MaxQty, api.MaxCost}, "1099511627776@1048576: 1099511627776, 1152921504606846976"},
		{[]int{api.MaxQty - 1, api.MaxCost, 1, 0}, "1099511627775@1048576 1@0: 1099511627776, 1152921504605798400"},
		{[]int{1, 7, api.MaxQty - 1, 7}, "1099511627776@7: 1099511627776, 7696581394432"},
	} {
		if got := view(layers(t, c.pairs...)); got != c.want {
			t.Errorf("%v: %s, not %s", c.pairs, got, c.want)
		}
	}
}

// An error changes nothing: not even whether the next pieces come to the last layer.
func TestInErrors(t *testing.T) {
	for _, c := range []struct {
		pairs   []int
		n, cost int
	}{
		{nil, 0, 1}, {nil, -1, 1}, {nil, least, 1}, {nil, most, 1}, {nil, api.MaxQty + 1, 1},
		{nil, 1, -1}, {nil, 1, least}, {nil, 1, most}, {nil, 1, api.MaxCost + 1}, {nil, 0, -1},
		{[]int{3, 5}, 0, 5}, {[]int{3, 5}, -1, 5}, {[]int{3, 5}, -3, 5}, {[]int{3, 5}, most, 5}, {[]int{3, 5}, least, 5},
		{[]int{3, 5}, 1, -1}, {[]int{3, 5}, 1, api.MaxCost + 1}, {[]int{3, 5}, 0, 6},
		// There would be more than MaxQty, of all layers together.
		{[]int{3, 5}, api.MaxQty, 5}, {[]int{3, 5}, api.MaxQty - 2, 5}, {[]int{3, 5}, api.MaxQty - 2, 6},
		{[]int{api.MaxQty, 5}, 1, 5}, {[]int{api.MaxQty, 5}, 1, 6}, {[]int{api.MaxQty, 5}, api.MaxQty, 5},
		{[]int{api.MaxQty - 2, 0, 1, 1}, 2, 2}, {[]int{api.MaxQty - 2, 0, 1, 1}, 2, 1}, {[]int{api.MaxQty - 2, 0, 2, 1}, 1, 1},
	} {
		l := layers(t, c.pairs...)
		was := view(l)
		if err := l.In(c.n, c.cost); err != api.ErrBound || view(l) != was {
			t.Errorf("%v: In(%d, %d): %v, %s was %s", c.pairs, c.n, c.cost, err, view(l), was)
		}
	}
	l := layers(t, 3, 5)
	l.In(0, 6)
	l.In(2, -1)
	if err := l.In(api.MaxQty-3, 5); err != nil || l.Text() != "1099511627776@5" {
		t.Error(err, l.Text())
	}
}

func TestOut(t *testing.T) {
	for _, c := range []struct {
		pairs []int
		n     int
		cost  int
		want  string
	}{
		{[]int{3, 5}, 1, 5, "2@5: 2, 10"},
		{[]int{3, 5}, 3, 15, ": 0, 0"},
		{[]int{3, 5, 2, 7}, 2, 10, "1@5 2@7: 3, 19"},
		{[]int{3, 5, 2, 7}, 3, 15, "2@7: 2, 14"},
		{[]int{3, 5, 2, 7}, 4, 22, "1@7: 1, 7"},
		{[]int{3, 5, 2, 7}, 5, 29, ": 0, 0"},
		{[]int{3, 0, 2, 7, 4, 0, 1, 9}, 8, 14, "1@0 1@9: 2, 9"},
		{[]int{3, 0, 2, 7, 4, 0, 1, 9}, 3, 0, "2@7 4@0 1@9: 7, 23"},
		{[]int{1, 9, 1, 8, 1, 7, 1, 6}, 3, 24, "1@6: 1, 6"},
		{[]int{api.MaxQty, api.MaxCost}, api.MaxQty, 1 << 60, ": 0, 0"},
		{[]int{api.MaxQty, api.MaxCost}, api.MaxQty - 1, 1<<60 - 1<<20, "1@1048576: 1, 1048576"},
		{[]int{1, 0, api.MaxQty - 1, api.MaxCost}, api.MaxQty, 1<<60 - 1<<20, ": 0, 0"},
	} {
		l := layers(t, c.pairs...)
		if n, err := l.Out(c.n); n != c.cost || err != nil || view(l) != c.want {
			t.Errorf("%v: Out(%d) = %d, %v, %s, not %d, %s", c.pairs, c.n, n, err, view(l), c.cost, c.want)
		}
	}
}

func TestOutErrors(t *testing.T) {
	for _, c := range []struct {
		pairs []int
		n     int
		want  error
	}{
		{nil, 0, api.ErrBound}, {nil, -1, api.ErrBound}, {nil, least, api.ErrBound}, {nil, most, api.ErrBound}, {nil, api.MaxQty + 1, api.ErrBound},
		{nil, 1, api.ErrShort}, {nil, api.MaxQty, api.ErrShort},
		{[]int{3, 5, 2, 7}, 0, api.ErrBound}, {[]int{3, 5, 2, 7}, -2, api.ErrBound}, {[]int{3, 5, 2, 7}, least, api.ErrBound},
		{[]int{3, 5, 2, 7}, api.MaxQty + 1, api.ErrBound}, {[]int{3, 5, 2, 7}, most, api.ErrBound},
		{[]int{3, 5, 2, 7}, 6, api.ErrShort}, {[]int{3, 5, 2, 7}, api.MaxQty, api.ErrShort},
		{[]int{api.MaxQty - 1, 1}, api.MaxQty, api.ErrShort}, {[]int{api.MaxQty, 1}, api.MaxQty + 1, api.ErrBound},
	} {
		l := layers(t, c.pairs...)
		was := view(l)
		if n, err := l.Out(c.n); n != 0 || err != c.want || view(l) != was {
			t.Errorf("%v: Out(%d) = %d, %v, not %v, %s was %s", c.pairs, c.n, n, err, c.want, view(l), was)
		}
	}
}

// Pieces come behind what went: to a part of a layer, and anew to none.
func TestInBehindOut(t *testing.T) {
	l := cost.New()
	for i, c := range []struct {
		in, cost, out, went int
		want                string
	}{
		{3, 5, 2, 10, "1@5: 1, 5"},
		{3, 5, 2, 10, "2@5: 2, 10"},
		{1, 6, 2, 10, "1@6: 1, 6"},
		{1, 5, 1, 6, "1@5: 1, 5"},
		{1, 6, 2, 11, ": 0, 0"},
		{4, 6, 1, 6, "3@6: 3, 18"},
		{2, 0, 5, 18, ": 0, 0"},
		{api.MaxQty, 1, api.MaxQty, api.MaxQty, ": 0, 0"},
		{api.MaxQty, 2, 1, 2, "1099511627775@2: 1099511627775, 2199023255550"},
		{1, 3, api.MaxQty - 1, 2*api.MaxQty - 2, "1@3: 1, 3"},
		{api.MaxQty - 1, 3, 5, 15, "1099511627771@3: 1099511627771, 3298534883313"},
	} {
		if err := l.In(c.in, c.cost); err != nil {
			t.Fatal(i, err)
		}
		if n, err := l.Out(c.out); n != c.went || err != nil || view(l) != c.want {
			t.Errorf("%d: %d, %v, %s, not %d, %s", i, n, err, view(l), c.went, c.want)
		}
	}
}

// As many layers as one likes.
func TestManyLayers(t *testing.T) {
	l, worth := cost.New(), 0
	var words []string
	for k := range 100000 {
		if err := l.In(1+k%2, k%3); err != nil {
			t.Fatal(err)
		}
		worth += (1 + k%2) * (k % 3)
		words = append(words, fmt.Sprintf("%d@%d", 1+k%2, k%3))
	}
	if l.Has() != 150000 || l.Worth() != worth || l.Text() != strings.Join(words, " ") {
		t.Error(l.Has(), l.Worth())
	}
	if n, err := l.Out(149999); n != worth-99999%3 || err != nil || view(l) != "1@0: 1, 0" {
		t.Error(n, err, view(l))
	}
}

// Nil, as Of answers it beside an error, has nothing, and nothing panics.
func TestNil(t *testing.T) {
	l, _, err := cost.Of(nil, "rye")
	if l != nil || err != api.ErrNone || view(l) != ": 0, 0" {
		t.Fatal(view(l), err)
	}
	if err := l.In(1, 1); err != api.ErrShape {
		t.Error(err)
	}
	if n, err := l.Out(1); n != 0 || err != api.ErrShort {
		t.Error(n, err)
	}
	if n, err := l.Out(0); n != 0 || err != api.ErrBound {
		t.Error(n, err)
	}
}

func TestNobodysLayers(t *testing.T) {
	var l cost.Layers
	if n, err := l.Out(1); view(&l) != ": 0, 0" || n != 0 || err != api.ErrShort {
		t.Error(view(&l), n, err)
	}
	if err := l.In(2, 3); err != nil || view(&l) != "2@3: 2, 6" {
		t.Error(view(&l), err)
	}
}

// P81: of entries

// barn of two goods; rye in three lots, two of them of one cost.
func barn() []string {
	return []string{"goods rye 6", "goods malt 1", "goods oats 1", "lot l1 rye 9 3", "lot l2 rye 5 2", "lot l3 rye 1 3", "lot m1 malt 9 9"}
}

func TestOf(t *testing.T) {
	for _, c := range []struct {
		texts string // behind the barn's
		want  string
		went  int
	}{
		{"", ": 0, 0", 0},
		{"in l1 a-1-1 4", "4@3: 4, 12", 0},
		{"more l1 a-1-1 4", "4@3: 4, 12", 0},
		// Lots of one cost are one layer; places are not told apart.
		{"in l1 a-1-1 4,more l3 b-1-1 2,in l1 c-1-1 1", "7@3: 7, 21", 0},
		{"in l1 a-1-1 4,in l2 a-1-1 1,in l3 a-1-1 2", "4@3 1@2 2@3: 7, 20", 0},
		// The eldest go, whichever lot it is that goes.
		{"in l1 a-1-1 4,in l2 a-1-1 5,out l2 a-1-1 3", "1@3 5@2: 6, 13", 9},
		{"in l1 a-1-1 4,in l2 a-1-1 5,less l2 a-1-1 5", "4@2: 4, 8", 14},
		{"in l2 a-1-1 5,in l1 a-1-1 4,out l1 a-1-1 2,less l1 a-1-1 2", "1@2 4@3: 5, 14", 8},
		{"in l2 a-1-1 5,in l1 a-1-1 4,out l1 a-1-1 4,out l2 a-1-1 5", ": 0, 0", 22},
		{"in l1 a-1-1 4,less l1 a-1-1 4,in l2 a-1-1 1,out l2 a-1-1 1,more l3 a-1-1 1", "1@3: 1, 3", 14},
		// What moves, is promised or is of other goods does not count.
		{"in l1 a-1-1 4,move l1 a-1-1 b-1-1 3,hold l1 2,free l1 1", "4@3: 4, 12", 0},
		{"in l1 a-1-1 4,in m1 a-1-1 7,out m1 a-1-1 2,less m1 a-1-1 1,more m1 a-1-1 1", "4@3: 4, 12", 0},
		{"in m1 a-1-1 7,in l1 a-1-1 4,out m1 a-1-1 6,out l1 a-1-1 1", "3@3: 3, 9", 3},
		{"in l1 a-1-1 4,in m1 a-1-1 2,in l3 a-1-1 4", "8@3: 8, 24", 0},
		// Goods and lots may come later.
		{"in l1 a-1-1 4,goods hops 2,lot l4 rye 1 0,in l4 a-1-1 9,out l4 a-1-1 5", "8@0: 8, 0", 12},
		{"in l1 a-1-1 1099511627776,out l1 a-1-1 1099511627776,in l2 a-1-1 1099511627776", "1099511627776@2: 1099511627776, 2199023255552", 3298534883328},
	} {
		texts := barn()
		if c.texts != "" {
			texts = append(texts, strings.Split(c.texts, ",")...)
		}
		if l, n, err := cost.Of(entries(t, texts...), "rye"); view(l) != c.want || n != c.went || err != nil {
			t.Errorf("%s: %s, %d, %v, not %s, %d", c.texts, view(l), n, err, c.want, c.went)
		}
	}
}

func TestOfEachCode(t *testing.T) {
	l := entries(t, append(barn(), "in l1 a-1-1 4", "in m1 a-1-1 7", "out l1 a-1-1 1", "less m1 a-1-1 5")...)
	for _, c := range []struct {
		code, want string
		went       int
	}{{"rye", "3@3: 3, 9", 3}, {"malt", "2@9: 2, 18", 45}, {"oats", ": 0, 0", 0}} {
		if x, n, err := cost.Of(l, c.code); view(x) != c.want || n != c.went || err != nil {
			t.Errorf("%s: %s, %d, %v", c.code, view(x), n, err)
		}
	}
}

// What went may cost more than a book's pieces do at once.
func TestOfMuch(t *testing.T) {
	texts := []string{"goods rye 6", "lot l1 rye 9 1048576"}
	for range 7 {
		texts = append(texts, "in l1 a-1-1 1099511627776", "out l1 a-1-1 1099511627776")
	}
	if l, n, err := cost.Of(entries(t, texts...), "rye"); view(l) != ": 0, 0" || n != 7<<60 || err != nil {
		t.Error(view(l), n, err)
	}
}

// No such goods at the end: bare, and behind the entries' errors.
func TestOfNone(t *testing.T) {
	l := entries(t, append(barn(), "in l1 a-1-1 4")...)
	for _, code := range []string{"zz", "", "l1", "Rye", "rye ", "ry", "a", "\xff", strings.Repeat("r", 1<<16)} {
		if x, n, err := cost.Of(l, code); x != nil || n != 0 || err != api.ErrNone {
			t.Errorf("%.9q: %s, %d, %v", code, view(x), n, err)
		}
	}
	for _, none := range [][]api.Entry{nil, {}, l[1:3], l[:0]} {
		if x, n, err := cost.Of(none, "rye"); x != nil || n != 0 || err != api.ErrNone {
			t.Error(view(x), n, err)
		}
	}
	// They are there at the end.
	if x, n, err := cost.Of(l[:1], "rye"); view(x) != ": 0, 0" || n != 0 || err != nil {
		t.Error(view(x), n, err)
	}
}

func TestOfErrors(t *testing.T) {
	few := len(barn())
	for _, c := range []struct {
		texts string
		code  string
		at    int
		want  error
	}{
		{"goods rye 6", "rye", few, api.ErrExist},
		{"in l1 a-1-1 4,lot l1 rye 0 0", "rye", few + 1, api.ErrExist},
		{"lot z1 zz 0 0", "rye", few, api.ErrNone},
		{"in zz a-1-1 4", "rye", few, api.ErrNone},
		{"in l1 a-1-1 4,out l1 a-1-1 5", "rye", few + 1, api.ErrShort},
		{"in l1 a-1-1 4,out l1 a-1-1 3,less l1 a-1-1 2", "rye", few + 2, api.ErrShort},
		{"in l1 a-1-1 4,out l1 a-1-2 1", "rye", few + 1, api.ErrShort},
		{"in l1 a-1-1 4,out l2 a-1-1 1", "rye", few + 1, api.ErrShort},
		{"in l1 a-1-1 4,hold l1 4,in l2 a-1-1 4,less l1 a-1-1 1", "rye", few + 3, api.ErrShort},
		{"in l1 a-1-1 4,move l1 a-1-1 b-1-1 5", "rye", few + 1, api.ErrShort},
		{"in l1 a-1-1 1099511627776,in l1 a-1-1 1", "rye", few + 1, api.ErrBound},
		// Of other goods, or none: an entry's error is told all the same, and ahead of ErrNone.
		{"in m1 a-1-1 4,out m1 a-1-1 5", "rye", few + 1, api.ErrShort},
		{"in m1 a-1-1 4,out m1 a-1-1 5", "zz", few + 1, api.ErrShort},
		{"goods rye 6", "", few, api.ErrExist},
		// The book takes as many of each lot; the layers are those of a code.
		{"in l1 a-1-1 1099511627776,in l2 a-1-1 1", "rye", few + 1, api.ErrBound},
		{"in l1 a-1-1 1099511627775,more l2 a-1-1 1,more l3 a-1-1 1,out l1 a-1-1 3", "rye", few + 2, api.ErrBound},
		{"in l1 a-1-1 1,in m1 a-1-1 1099511627776,in l2 a-1-1 1099511627775,in l3 b-1-1 1,goods rye 1", "rye", few + 3, api.ErrBound},
		{"in l1 a-1-1 1099511627776,goods rye 1,in l2 a-1-1 1", "rye", few + 1, api.ErrExist},
		{"in l1 a-1-1 1099511627776,in l2 a-1-1 1,goods rye 1", "rye", few + 1, api.ErrBound},
		{"in l1 a-1-1 1099511627776,in l2 a-1-1 1,goods rye 1", "malt", few + 2, api.ErrExist},
		{"in l1 a-1-1 1099511627776,in l2 a-1-1 1,goods rye 1", "zz", few + 2, api.ErrExist},
	} {
		l := entries(t, append(barn(), strings.Split(c.texts, ",")...)...)
		x, n, err := cost.Of(l, c.code)
		if fault, is := err.(*api.Fault); x != nil || n != 0 || !is || *fault != (api.Fault{At: c.at, Err: c.want}) {
			t.Errorf("%s: %s: %s, %d, %v, not %d: %v", c.code, c.texts, view(x), n, err, c.at, c.want)
		}
	}
}

// Entries that no text has.
func TestOfWrongEntries(t *testing.T) {
	a, l1 := api.Place{Zone: "a", Row: 1, Bay: 1}, api.Lot{ID: "l1"}
	for _, c := range []struct {
		e    api.Entry
		want error
	}{
		{api.Entry{}, api.ErrKind},
		{api.Entry{Kind: "In", Lot: l1, To: a, N: 1}, api.ErrKind},
		{api.Entry{Kind: "in", Lot: api.Lot{ID: "L1"}, To: a, N: 1}, api.ErrName},
		{api.Entry{Kind: "in", Lot: l1, To: a}, api.ErrBound},
		{api.Entry{Kind: "in", Lot: l1, To: a, N: least}, api.ErrBound},
		{api.Entry{Kind: "out", Lot: l1, From: a, N: -1}, api.ErrBound},
		{api.Entry{Kind: "in", Lot: l1, From: a, N: 1}, api.ErrName},
		{api.Entry{Kind: "in", Lot: api.Lot{ID: "l1", Code: "rye", Cost: 3}, To: a, N: 1}, api.ErrShape},
	} {
		l := append(entries(t, append(barn(), "in l1 a-1-1 4")...), c.e)
		x, n, err := cost.Of(l, "rye")
		if fault, is := err.(*api.Fault); x != nil || n != 0 || !is || *fault != (api.Fault{At: len(l) - 1, Err: c.want}) {
			t.Errorf("%v: %s, %d, %v, not %v", c.e, view(x), n, err, c.want)
		}
	}
}

// P3, P4: entries are only read, and no further than their length; what is answered is new memory.
func TestEntriesStay(t *testing.T) {
	l := entries(t, append(barn(), "in l1 a-1-1 4", "out l1 a-1-1 1", "goods rye 6")...)
	was := slices.Clone(l)
	x, n, err := cost.Of(l[:len(l)-1], "rye")
	if view(x) != "3@3: 3, 9" || n != 3 || err != nil || !slices.Equal(l, was) {
		t.Fatal(view(x), n, err)
	}
	again, _, _ := cost.Of(l[:len(l)-1], "rye")
	for i := range l {
		l[i] = api.Entry{}
	}
	if err := x.In(2, 3); err != nil || view(x) != "5@3: 5, 15" || view(again) != "3@3: 3, 9" {
		t.Error(view(x), view(again), err)
	}
	if n, err := again.Out(3); n != 9 || err != nil || view(x) != "5@3: 5, 15" {
		t.Error(view(x), n, err)
	}
}

// P2: alike, however often and beside whom it is asked.
func TestAlwaysAlike(t *testing.T) {
	l := randomEntries(rand.New(rand.NewSource(1)), 200)
	want, went, err := cost.Of(l, "rye")
	if err != nil {
		t.Fatal(err)
	}
	var wait sync.WaitGroup
	var got [8]string
	for i := range got {
		wait.Go(func() {
			x, n, err := cost.Of(l, "rye")
			got[i] = fmt.Sprint(view(x), n, err)
		})
	}
	wait.Wait()
	for _, s := range got {
		if s != fmt.Sprint(view(want), went, err) {
			t.Error(s)
		}
	}
}

// P82: what went and what is left cost what came cost

// pieces is layers as slow as can be: what each piece cost, the eldest first.
type pieces []int

func (p pieces) view() string {
	worth := 0
	var words []string
	for i := 0; i < len(p); {
		n := 1
		for i+n < len(p) && p[i+n] == p[i] {
			n++
		}
		words = append(words, strconv.Itoa(n)+"@"+strconv.Itoa(p[i]))
		worth += n * p[i]
		i += n
	}
	return fmt.Sprintf("%s: %d, %d", strings.Join(words, " "), len(p), worth)
}

func (p pieces) cost() int {
	sum := 0
	for _, c := range p {
		sum += c
	}
	return sum
}

func TestRandomLayers(t *testing.T) {
	for seed := range int64(100) {
		r := rand.New(rand.NewSource(seed))
		l, p := cost.New(), pieces{}
		came, went := 0, 0
		for range 100 {
			n, c := r.Intn(9), r.Intn(4)
			if r.Intn(2) == 0 {
				if err := l.In(n, c); (err == nil) != (n > 0) {
					t.Fatalf("seed %d: In(%d, %d): %v", seed, n, c, err)
				}
				p = append(p, slices.Repeat([]int{c}, n)...)
				came += n * c
			} else {
				gone := min(n, len(p))
				sum, err := l.Out(n)
				if (err == nil) != (0 < n && n <= len(p)) || err == nil && sum != p[:gone].cost() || err != nil && sum != 0 {
					t.Fatalf("seed %d: Out(%d) = %d, %v, of %s", seed, n, sum, err, p.view())
				}
				if err == nil {
					p = p[gone:]
				}
				went += sum
			}
			if view(l) != p.view() || went+l.Worth() != came {
				t.Fatalf("seed %d: %s, not %s; %d of %d went", seed, view(l), p.view(), went, came)
			}
		}
	}
}

// randomEntries: those that a book has done.
func randomEntries(r *rand.Rand, tries int) []api.Entry {
	b, l := book.New(), []api.Entry{}
	do := func(e api.Entry) {
		if b.Do(e) == nil {
			l = append(l, e)
		}
	}
	for _, code := range []string{"rye", "malt"} {
		do(api.Entry{Kind: "goods", Goods: api.Goods{Code: code, Pack: 1}})
	}
	ids := []string{"l1", "l2", "l3", "m1"}
	for _, id := range ids {
		do(api.Entry{Kind: "lot", Lot: api.Lot{ID: id, Code: []string{"rye", "rye", "malt"}[r.Intn(3)], Cost: r.Intn(4)}})
	}
	where := func() api.Place { return api.Place{Zone: "a", Row: 1, Bay: 1 + r.Intn(2)} }
	for range tries {
		e := api.Entry{Lot: api.Lot{ID: ids[r.Intn(len(ids))]}, N: 1 + r.Intn(9)}
		switch e.Kind = []string{"in", "in", "more", "out", "out", "less", "move", "hold", "free"}[r.Intn(9)]; e.Kind {
		case "in", "more":
			e.To = where()
		case "out", "less":
			e.From = where()
		case "move":
			e.From, e.To = where(), where()
		}
		do(e)
	}
	return l
}

// slow is Of as slow as can be, of entries with no error.
func slow(l []api.Entry, code string) (p pieces, came, went int) {
	lots := map[string]api.Lot{}
	for _, e := range l {
		if e.Kind == "lot" {
			lots[e.Lot.ID] = e.Lot
			continue
		}
		of := lots[e.Lot.ID]
		switch {
		case of.Code != code:
		case e.Kind == "in" || e.Kind == "more":
			p = append(p, slices.Repeat([]int{of.Cost}, e.N)...)
			came += e.N * of.Cost
		case e.Kind == "out" || e.Kind == "less":
			went += p[:e.N].cost()
			p = p[e.N:]
		}
	}
	return p, came, went
}

func TestRandomOf(t *testing.T) {
	ever := 0
	for seed := range int64(200) {
		l := randomEntries(rand.New(rand.NewSource(seed)), 60)
		b, err := book.Replay(l)
		if err != nil {
			t.Fatal(err)
		}
		for _, code := range []string{"rye", "malt"} {
			p, came, went := slow(l, code)
			x, n, err := cost.Of(l, code)
			if err != nil || view(x) != p.view() || n != went || n+x.Worth() != came || x.Has() != b.Has(code) {
				t.Errorf("seed %d: %s: %s, %d, %v, not %s, %d; %d came", seed, code, view(x), n, err, p.view(), went, came)
			}
			ever += went
		}
	}
	if ever == 0 {
		t.Error("nothing ever went")
	}
}

// FuzzOf: entries of any bytes.
func FuzzOf(f *testing.F) {
	f.Add("goods rye 6\nlot l1 rye 9 3\nlot l2 rye 1 2\nin l1 a-1-1 5\nin l2 a-1-1 1\nout l2 a-1-1 1\nless l1 a-1-1 4", "rye")
	f.Add("goods rye 6\nlot l1 rye 9 3\nlot l2 rye 1 2\nin l1 a-1-1 1099511627776\nmore l2 a-1-1 1", "rye")
	f.Add("goods rye 6\nwhat\n\n", "")
	f.Fuzz(func(t *testing.T, s, code string) {
		var l []api.Entry
		for _, line := range strings.Split(s, "\n")[:min(40, 1+strings.Count(s, "\n"))] {
			e, err := entry.Read(line)
			if err != nil {
				e = api.Entry{Kind: line, N: len(line)}
			}
			l = append(l, e)
		}
		b, wrong := book.Replay(l)
		x, n, err := cost.Of(l, code)
		if err != nil {
			var fault *api.Fault
			if x != nil || n != 0 || wrong == nil && errors.As(err, &fault) && fault.Err != api.ErrBound {
				t.Error(view(x), n, err, wrong)
			}
			return
		}
		if wrong != nil || x.Has() != b.Has(code) || x.Worth() < 0 {
			t.Error(view(x), n, wrong)
		}
	})
}

func ExampleOf() {
	var l []api.Entry
	for _, s := range []string{"goods rye 12", "lot l1 rye 30 5", "lot l2 rye 20 4", "in l1 a-1-2 5", "in l2 a-2-3 2", "out l2 a-2-3 1", "less l1 a-1-2 2"} {
		e, _ := entry.Read(s)
		l = append(l, e)
	}
	left, went, err := cost.Of(l, "rye")
	fmt.Println(left.Text(), left.Has(), left.Worth(), went, err)
	// Output:
	// 2@5 2@4 4 18 15 <nil>
}
