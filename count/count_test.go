package count_test

import (
	"errors"
	"fmt"
	"math/rand"
	"slices"
	"strconv"
	"strings"
	"sync"
	"testing"

	"tithebarn/api"
	"tithebarn/book"
	"tithebarn/count"
	"tithebarn/entry"
	"tithebarn/place"
)

const (
	least = -1 << 63
	most  = 1<<63 - 1
)

// made of texts, all of which must be done.
func made(t testing.TB, texts ...string) *book.Book {
	t.Helper()
	b := book.New()
	for _, s := range texts {
		do(t, b, s)
	}
	return b
}

func do(t testing.TB, b *book.Book, text string) {
	t.Helper()
	e, err := entry.Read(text)
	if err == nil {
		err = b.Do(e)
	}
	if err != nil {
		t.Fatalf("%q: %v", text, err)
	}
}

// barn: rye in two lots, and malt in one.
func barn(t testing.TB) *book.Book {
	t.Helper()
	return made(t, "goods rye 6", "goods malt 1", "goods oats 1",
		"lot l1 rye 9 3", "lot l2 rye 5 2", "lot m1 malt 9 1",
		"in l1 a-1-1 10", "in l1 b-2-3 4", "in l2 a-1-1 1", "in l2 a-2-2 5", "in m1 c-1-1 8")
}

// sheet of lines, a comma between: place, lot, number. The numbers are any.
func sheet(t testing.TB, text string) []api.Line {
	t.Helper()
	var l []api.Line
	for _, s := range strings.Split(text, ",") {
		w := strings.Split(s, " ")
		if len(w) != 3 {
			continue
		}
		part := strings.SplitN(w[0], "-", 3)
		row, bad := strconv.Atoi(part[1])
		bay, wrong := strconv.Atoi(part[2])
		n, no := strconv.Atoi(w[2])
		if err := errors.Join(bad, wrong, no); err != nil {
			t.Fatal(s, err)
		}
		l = append(l, api.Line{Place: api.Place{Zone: part[0], Row: row, Bay: bay}, Lot: w[1], N: n})
	}
	return l
}

// told entries: as texts.
func told(l []api.Entry) string {
	var s []string
	for _, e := range l {
		s = append(s, entry.Text(e))
	}
	return strings.Join(s, ",")
}

// fault: is an error one At a line, and no other?
func fault(err error, at int, want error) bool {
	f, is := err.(*api.Fault)
	return is && *f == (api.Fault{At: at, Err: want})
}

// P90: sheets

func TestCheck(t *testing.T) {
	for _, text := range []string{
		"", "a-1-1 l1 0", "a-1-1 l1 1", "a-1-1 l1 1099511627776", "z9-20-40 abcdefgh 5",
		// A place and a lot together stand but once; each of them may stand again.
		"a-1-1 l1 5,a-1-1 l2 5,a-1-1 l3 5", "a-1-1 l1 5,a-1-2 l1 5,a-2-1 l1 5,b-1-1 l1 5", "a-1-2 l1 5,a-2-1 l1 5,a-2-1 l2 5,a-1-2 l2 5",
		// In no order; of lots that are in no book.
		"b-1-1 zz 5,a-2-1 zz 5,a-2-7 zz 5,a-1-1 zz 5",
	} {
		if err := count.Check(sheet(t, text)); err != nil {
			t.Error(text, err)
		}
	}
	if err := count.Check([]api.Line{}); err != nil {
		t.Error(err)
	}
}

func TestCheckErrors(t *testing.T) {
	for _, c := range []struct {
		text string
		at   int
		want error
	}{
		{"-1-1 l1 5", 0, api.ErrName}, {"A-1-1 l1 5", 0, api.ErrName}, {"abcdefghi-1-1 l1 5", 0, api.ErrName},
		{"a-0-1 l1 5", 0, api.ErrBound}, {"a-21-1 l1 5", 0, api.ErrBound}, {"a-1-0 l1 5", 0, api.ErrBound}, {"a-1-41 l1 5", 0, api.ErrBound},
		{"a-9223372036854775807-1 l1 5", 0, api.ErrBound}, {"a-1--1 l1 5", 0, api.ErrBound}, {"a-1--9223372036854775808 l1 5", 0, api.ErrBound},
		{"a-1-1  5", 0, api.ErrName}, {"a-1-1 L1 5", 0, api.ErrName}, {"a-1-1 abcdefghi 5", 0, api.ErrName}, {"a-1-1 é 5", 0, api.ErrName},
		{"a-1-1 l1 -1", 0, api.ErrBound}, {"a-1-1 l1 1099511627777", 0, api.ErrBound},
		{"a-1-1 l1 -9223372036854775808", 0, api.ErrBound}, {"a-1-1 l1 9223372036854775807", 0, api.ErrBound},
		{"a-1-1 l1 5,a-1-1 l1 5", 1, api.ErrExist}, {"a-1-1 l1 5,a-1-1 l1 6", 1, api.ErrExist}, {"a-1-1 l1 0,a-1-1 l1 0", 1, api.ErrExist},
		{"a-1-1 l1 5,a-1-1 l2 5,b-1-1 l1 5,a-1-1 l1 7", 3, api.ErrExist}, {"a-1-1 l1 5,a-1-1 l2 5,a-1-1 l2 1,a-1-1 l1 7", 2, api.ErrExist},
		// Of one line: in the order in which they are named.
		{"-0-1  -1", 0, api.ErrName}, {"a-0-1  -1", 0, api.ErrBound}, {"a-1-1  -1", 0, api.ErrName}, {"a-1-1 l1 5,a-1-1 l1 -1", 1, api.ErrBound},
		// Of several lines: the first one's.
		{"a-1-1 l1 5,a-1-2 l1 -1,-1-1 l1 5", 1, api.ErrBound}, {"a-1-1 l1 5,a-1-1 l1 5,-1-1  -1", 1, api.ErrExist}, {"a-1-1 l1 5,a-1-2  5,a-1-1 l1 5", 1, api.ErrName},
		{"a-1-1 l1 5,a-1-2 l1 5,a-1-41 l1 5", 2, api.ErrBound},
	} {
		l := sheet(t, c.text)
		if err := count.Check(l); !fault(err, c.at, c.want) {
			t.Errorf("%s: %v, not %d: %v", c.text, err, c.at, c.want)
		}
		// Diff tells them too, whatever its book has: of no lots, and of all of them.
		for _, b := range []*book.Book{book.New(), barn(t)} {
			if d, err := count.Diff(b, l); d != nil || !fault(err, c.at, c.want) {
				t.Errorf("Diff: %s: %s, %v, not %d: %v", c.text, told(d), err, c.at, c.want)
			}
		}
	}
}

func TestCheckRowsBelowZero(t *testing.T) {
	for _, row := range []int{-1, least} {
		l := []api.Line{{Place: api.Place{Zone: "a", Row: 1, Bay: 1}, Lot: "l1"}, {Place: api.Place{Zone: "a", Row: row, Bay: 1}, Lot: "l1", N: 5}}
		if err := count.Check(l); !fault(err, 1, api.ErrBound) {
			t.Error(row, err)
		}
	}
}

// As many lines as one likes.
func TestManyLines(t *testing.T) {
	var l []api.Line
	for _, zone := range []string{"a", "b"} {
		for row := 1; row <= api.MaxRow; row++ {
			for bay := 1; bay <= api.MaxBay; bay++ {
				l = append(l, api.Line{Place: api.Place{Zone: zone, Row: row, Bay: bay}, Lot: "l1", N: 1})
			}
		}
	}
	if err := count.Check(l); err != nil {
		t.Fatal(err)
	}
	for _, at := range []int{0, 1, 800, 1599} {
		if err := count.Check(append(slices.Clone(l), l[at])); !fault(err, len(l), api.ErrExist) {
			t.Error(at, err)
		}
	}
	if d, err := count.Diff(barn(t), l); len(d) != len(l) || err != nil {
		t.Error(len(d), err)
	}
}

func TestDiff(t *testing.T) {
	for _, c := range []struct{ text, want string }{
		{"", ""},
		{"a-1-1 l1 10", ""}, {"a-1-1 l1 11", "more l1 a-1-1 1"}, {"a-1-1 l1 9", "less l1 a-1-1 1"}, {"a-1-1 l1 0", "less l1 a-1-1 10"},
		{"a-1-1 l1 1099511627776", "more l1 a-1-1 1099511627766"},
		// The stock has none there.
		{"a-1-2 l1 0", ""}, {"a-1-2 l1 3", "more l1 a-1-2 3"}, {"a-1-2 l1 1099511627776", "more l1 a-1-2 1099511627776"}, {"z-9-9 m1 1", "more m1 z-9-9 1"},
		// What no line is of stays: also the other lots of its place, and the other places of its lot.
		{"a-1-1 l2 2", "more l2 a-1-1 1"}, {"b-2-3 l1 1", "less l1 b-2-3 3"},
		// In the lines' order, not that of the way, of lots or of kinds.
		{"c-1-1 m1 7,a-2-2 l2 5,a-1-1 l2 9,a-1-1 l1 10,b-2-3 l1 0,a-1-1 m1 2", "less m1 c-1-1 1,more l2 a-1-1 8,less l1 b-2-3 4,more m1 a-1-1 2"},
		{"a-1-1 m1 2,b-2-3 l1 0,a-1-1 l1 10,a-1-1 l2 9,a-2-2 l2 5,c-1-1 m1 7", "more m1 a-1-1 2,less l1 b-2-3 4,more l2 a-1-1 8,less m1 c-1-1 1"},
		// Pieces that lie elsewhere: each line by itself.
		{"a-1-1 l1 8,a-1-2 l1 2", "less l1 a-1-1 2,more l1 a-1-2 2"},
	} {
		b := barn(t)
		was := b.Copy()
		d, err := count.Diff(b, sheet(t, c.text))
		if told(d) != c.want || err != nil || !book.Same(b, was) {
			t.Errorf("%s: %s, %v, not %s", c.text, told(d), err, c.want)
		}
	}
}

// All fields of an entry that is found: those of its kind, and no more.
func TestDiffFields(t *testing.T) {
	d, err := count.Diff(barn(t), sheet(t, "b-2-3 l1 9,a-2-2 l2 4"))
	want := []api.Entry{
		{Kind: "more", Lot: api.Lot{ID: "l1"}, To: api.Place{Zone: "b", Row: 2, Bay: 3}, N: 5},
		{Kind: "less", Lot: api.Lot{ID: "l2"}, From: api.Place{Zone: "a", Row: 2, Bay: 2}, N: 1},
	}
	if !slices.Equal(d, want) || err != nil {
		t.Error(d, err)
	}
}

// Numbers at their bounds: from all that a lot may have to nothing, and back.
func TestDiffMuch(t *testing.T) {
	b := made(t, "goods rye 6", "lot l1 rye 9 3", "in l1 a-1-1 1099511627776")
	for _, c := range []struct{ text, want string }{
		{"a-1-1 l1 1099511627776", ""}, {"a-1-1 l1 0", "less l1 a-1-1 1099511627776"},
		{"a-1-1 l1 0", ""}, {"a-1-1 l1 1099511627776", "more l1 a-1-1 1099511627776"},
	} {
		d, err := count.Diff(b, sheet(t, c.text))
		if told(d) != c.want || err != nil {
			t.Errorf("%s: %s, %v, not %s", c.text, told(d), err, c.want)
		}
		for _, e := range d {
			if err := b.Do(e); err != nil {
				t.Error(err)
			}
		}
	}
}

func TestDiffErrors(t *testing.T) {
	b := barn(t)
	was := b.Copy()
	for _, c := range []struct {
		text string
		at   int
		want error
	}{
		{"a-1-1 zz 1", 0, api.ErrNone}, {"a-1-1 zz 0", 0, api.ErrNone}, {"a-1-1 rye 1", 0, api.ErrNone}, {"a-1-1 l 10", 0, api.ErrNone},
		{"a-1-1 l1 10,a-1-1 l2 9,a-1-1 l3 0,a-1-1 l4 0", 2, api.ErrNone},
		// Of all lines, Check's errors are named ahead.
		{"a-1-1 zz 1,a-1-1 l1 -1", 1, api.ErrBound}, {"a-1-1 zz 1,a-1-1 zz 1", 1, api.ErrExist}, {"a-1-1 zz 1,a-1-2 yy 1,A-1-1 l1 1", 2, api.ErrName},
	} {
		if d, err := count.Diff(b, sheet(t, c.text)); d != nil || !fault(err, c.at, c.want) || !book.Same(b, was) {
			t.Errorf("%s: %s, %v, not %d: %v", c.text, told(d), err, c.at, c.want)
		}
	}
	// No book: bare, and ahead of all others.
	for _, text := range []string{"", "a-1-1 l1 10", "a-1-1 l1 -1", "A-1-1 l1 1", "a-1-1 zz 1,a-1-1 zz 1"} {
		if d, err := count.Diff(nil, sheet(t, text)); d != nil || err != api.ErrShape {
			t.Error(text, told(d), err)
		}
	}
	// A book of nothing has no lots.
	for _, empty := range []*book.Book{book.New(), {}} {
		if d, err := count.Diff(empty, sheet(t, "a-1-1 l1 1")); d != nil || !fault(err, 0, api.ErrNone) {
			t.Error(told(d), err)
		}
		if d, err := count.Diff(empty, nil); len(d) > 0 || err != nil {
			t.Error(told(d), err)
		}
	}
}

func TestClose(t *testing.T) {
	of := func(numbers ...int) (l []api.Entry) {
		for _, n := range numbers {
			l = append(l, api.Entry{Kind: "more", N: n})
		}
		return l
	}
	for _, c := range []struct {
		d    []api.Entry
		most int
		want bool
	}{
		{nil, 0, true}, {nil, -1, true}, {nil, least, true}, {of(), most, true},
		{of(3), 3, true}, {of(3), 2, false}, {of(3), 4, true}, {of(3), 0, false}, {of(3), -3, false}, {of(3), least, false},
		// Each of them, not all together; the last one too.
		{of(3, 3, 3), 3, true}, {of(3, 4, 3), 3, false}, {of(4, 3, 3), 3, false}, {of(3, 3, 4), 3, false},
		{of(api.MaxQty, 1), api.MaxQty, true}, {of(api.MaxQty, 1), api.MaxQty - 1, false},
		// Any numbers.
		{of(0), 0, true}, {of(0), -1, false}, {of(-5), 0, true}, {of(-5), -5, true}, {of(-5), -6, false},
		{of(least, most), most, true}, {of(least, most), most - 1, false}, {of(least), least, true}, {of(least + 1), least, false},
	} {
		if got := count.Close(c.d, c.most); got != c.want {
			t.Error(c.d, c.most, got)
		}
	}
	// More and less alike, whatever they are of.
	d, _ := count.Diff(barn(t), sheet(t, "a-1-1 l1 3,a-2-2 l2 9"))
	if told(d) != "less l1 a-1-1 7,more l2 a-2-2 4" || !count.Close(d, 7) || count.Close(d, 6) || !count.Close(d[1:], 4) || count.Close(d[1:], 3) {
		t.Error(told(d))
	}
}

// P91: classes

// went: a book of goods a, b, c and so on, of which so many pieces went.
func went(t testing.TB, outs ...int) *book.Book {
	t.Helper()
	b := book.New()
	for i := range outs {
		code := string(rune('a' + i))
		do(t, b, "goods "+code+" 1")
		do(t, b, "lot "+code+" "+code+" 9 1")
		if n := strconv.Itoa(outs[i]); outs[i] > 0 {
			do(t, b, "in "+code+" x-1-1 "+n)
			do(t, b, "out "+code+" x-1-1 "+n)
		}
	}
	return b
}

func TestClasses(t *testing.T) {
	for _, c := range []struct {
		outs []int
		want string
	}{
		{nil, ""}, {[]int{0}, "c"}, {[]int{1}, "a"}, {[]int{api.MaxQty}, "a"},
		{[]int{0, 0, 0}, "ccc"}, {[]int{0, 1, 0}, "cac"},
		// The first one has none ahead of it, whatever its share.
		{[]int{100, 0}, "ac"}, {[]int{0, 100, 3}, "cac"}, {[]int{96, 4}, "ac"},
		// Less than 80 of a hundred ahead, less than 95.
		{[]int{79, 21}, "aa"}, {[]int{80, 20}, "ab"}, {[]int{81, 19}, "ab"}, {[]int{94, 6}, "ab"}, {[]int{95, 5}, "ac"},
		{[]int{799, 201}, "aa"}, {[]int{800, 200}, "ab"}, {[]int{949, 51}, "ab"}, {[]int{950, 50}, "ac"},
		{[]int{5, 95}, "ca"}, {[]int{6, 94}, "ba"}, {[]int{21, 79}, "aa"},
		{[]int{40, 39, 15, 6}, "aaab"}, {[]int{40, 40, 14, 6}, "aabb"}, {[]int{40, 40, 15, 5}, "aabc"},
		{[]int{5, 15, 40, 40}, "cbaa"}, {[]int{15, 40, 5, 40}, "baca"}, {[]int{6, 15, 39, 40}, "baaa"},
		// Of as many: the first codes.
		{[]int{1, 1, 1, 1, 1}, "aaaab"}, {[]int{1, 1, 1, 1, 1, 1, 1, 1, 1, 1}, "aaaaaaaabb"},
		{slices.Repeat([]int{3}, 20), "aaaaaaaaaaaaaaaabbbc"}, {[]int{10, 40, 40, 10}, "baab"}, {[]int{5, 40, 40, 10, 5}, "baabc"},
		{[]int{1, 98, 1}, "cac"}, {[]int{3, 94, 3}, "bac"}, {[]int{0, 3, 94, 3, 0}, "cbacc"},
		// A few pieces: the shares are no whole numbers of a hundred.
		{[]int{2, 1}, "aa"}, {[]int{4, 1}, "ab"}, {[]int{5, 1}, "ab"}, {[]int{19, 1}, "ac"}, {[]int{18, 1}, "ab"}, {[]int{3, 1}, "aa"}, {[]int{15, 4}, "aa"}, {[]int{16, 4}, "ab"},
		{[]int{api.MaxQty, api.MaxQty, 1}, "aac"}, {[]int{1, api.MaxQty}, "ca"}, {slices.Repeat([]int{api.MaxQty}, api.MaxGoods)[:5], "aaaab"},
	} {
		b := went(t, c.outs...)
		was := b.Copy()
		if got := strings.Join(count.Classes(b), ""); got != c.want || !book.Same(b, was) {
			t.Errorf("%v: %s, not %s", c.outs, got, c.want)
		}
	}
}

// Nothing else counts but what went out: not what came, is there, was found more or less, is held or moved.
func TestClassesOfOut(t *testing.T) {
	b := made(t, "goods oats 1", "goods malt 1", "goods rye 6", "lot l1 rye 9 3", "lot l2 rye 5 2", "lot m1 malt 9 1", "lot o1 oats 9 1",
		"in l1 a-1-1 10", "in l2 a-1-1 10", "in m1 a-1-1 1000", "in o1 a-1-1 100", "more o1 a-1-1 100", "less o1 a-1-1 150", "hold o1 50", "move m1 a-1-1 a-1-2 500")
	for _, c := range []struct{ text, want string }{
		// By codes: malt, oats, rye.
		{"less m1 a-1-1 100", "ccc"}, {"out l1 a-1-1 3", "cca"}, {"out m1 a-1-1 1", "aca"}, {"less l2 a-1-1 9", "aca"},
		// All lots of a code together.
		{"out l2 a-1-1 1", "bca"}, {"out l1 a-1-1 5", "bca"}, {"out m1 a-1-1 30", "aca"}, {"out m1 a-1-2 500", "acc"},
		{"goods hops 1", "cacc"}, {"goods zest 1", "caccc"},
	} {
		do(t, b, c.text)
		if got := strings.Join(count.Classes(b), ""); got != c.want {
			t.Errorf("%s: %s, not %s", c.text, got, c.want)
		}
	}
}

func TestClassesOfNone(t *testing.T) {
	for _, b := range []*book.Book{nil, book.New(), {}} {
		if got := count.Classes(b); len(got) > 0 {
			t.Error(got)
		}
	}
}

// As much as a book can tell, of as many goods as it can have.
func TestClassesOfMuch(t *testing.T) {
	b := book.New()
	for i := range api.MaxGoods {
		id := fmt.Sprintf("g%02d", i)
		do(t, b, "goods "+id+" 1")
		do(t, b, "lot "+id+" "+id+" 9 1")
		for range api.MaxLots {
			do(t, b, "in "+id+" a-1-1 1099511627776")
			do(t, b, "out "+id+" a-1-1 1099511627776")
		}
	}
	if got := strings.Join(count.Classes(b), ""); got != strings.Repeat("a", 24)+"bbbbbc" {
		t.Error(got)
	}
}

func TestDue(t *testing.T) {
	for _, c := range []struct {
		class     string
		last, day int
		want      bool
	}{
		{"a", 0, 29, false}, {"a", 0, 30, true}, {"a", 0, 31, true}, {"a", 7, 36, false}, {"a", 7, 37, true},
		{"b", 0, 89, false}, {"b", 0, 90, true}, {"b", 0, 30, false}, {"b", 9, 98, false}, {"b", 9, 99, true},
		{"c", 0, 179, false}, {"c", 0, 180, true}, {"c", 0, 90, false}, {"c", 1, 180, false}, {"c", 1, 181, true},
		{"a", 5, 5, false}, {"b", 5, 5, false}, {"c", 5, 5, false},
		// Its last one is yet to come.
		{"a", 30, 0, false}, {"a", 5, 4, false}, {"b", 1000, 0, false}, {"c", 1000, 0, false},
		// Other classes.
		{"", 0, 100000, false}, {"d", 0, 100000, false}, {"A", 0, 100000, false}, {"aa", 0, 100000, false}, {"a ", 0, 100000, false}, {"\x00", least, most, false}, {"\xff", least, most, false},
		// Any days.
		{"a", -15, 15, true}, {"a", -15, 14, false}, {"b", -90, 0, true}, {"b", -89, 0, false}, {"c", -200, -20, true}, {"c", -200, -21, false},
		{"a", least, most, true}, {"b", least, most, true}, {"c", least, most, true},
		{"a", most, least, false}, {"b", most, least, false}, {"c", most, least, false},
		{"a", least, least + 29, false}, {"a", least, least + 30, true}, {"c", most - 179, most, false}, {"c", most - 180, most, true},
		{"a", least, 0, true}, {"a", -1, most, true}, {"a", 0, most, true}, {"a", least, -1, true}, {"a", 0, least, false}, {"a", most, -1, false}, {"a", least, least, false}, {"a", most, most, false},
	} {
		if got := count.Due(c.class, c.last, c.day); got != c.want {
			t.Errorf("Due(%q, %d, %d) = %v", c.class, c.last, c.day, got)
		}
	}
}

// P92: a second one tells nothing

// randomBarn: a book of what it did of random entries.
func randomBarn(r *rand.Rand) *book.Book {
	b := book.New()
	for i, id := range []string{"l1", "l2", "m1"} {
		code := []string{"rye", "rye", "malt"}[i]
		b.Do(api.Entry{Kind: "goods", Goods: api.Goods{Code: code, Pack: 1}})
		b.Do(api.Entry{Kind: "lot", Lot: api.Lot{ID: id, Code: code}})
	}
	for range 30 {
		b.Do(api.Entry{Kind: "in", Lot: api.Lot{ID: []string{"l1", "l2", "m1"}[r.Intn(3)]}, To: randomPlace(r), N: 1 + r.Intn(9)})
		b.Do(api.Entry{Kind: "out", Lot: api.Lot{ID: []string{"l1", "l2", "m1"}[r.Intn(3)]}, From: randomPlace(r), N: 1 + r.Intn(9)})
	}
	return b
}

func randomPlace(r *rand.Rand) api.Place {
	return api.Place{Zone: string(rune('a' + r.Intn(2))), Row: 1 + r.Intn(2), Bay: 1 + r.Intn(2)}
}

func randomSheet(r *rand.Rand) []api.Line {
	var l []api.Line
	for range r.Intn(20) {
		l = append(l, api.Line{Place: randomPlace(r), Lot: []string{"l1", "l2", "m1"}[r.Intn(3)], N: r.Intn(12)})
	}
	return l
}

func TestRandomSheets(t *testing.T) {
	told, refused := 0, 0
	for seed := range int64(500) {
		r := rand.New(rand.NewSource(seed))
		b, l := randomBarn(r), randomSheet(r)
		d, err := count.Diff(b, l)
		// Slow: of all pairs of lines, whether two of them are one.
		twice := len(l)
		for i := range l {
			for k := range i {
				if l[i].Place == l[k].Place && l[i].Lot == l[k].Lot {
					twice = min(twice, i)
				}
			}
		}
		if twice < len(l) {
			if refused++; d != nil || !fault(err, twice, api.ErrExist) || !fault(count.Check(l), twice, api.ErrExist) {
				t.Fatalf("seed %d: %v, not %d", seed, err, twice)
			}
			continue
		}
		if err != nil {
			t.Fatalf("seed %d: %v", seed, err)
		}
		was := b.Stock()
		for _, e := range d {
			if err := b.Do(e); err != nil {
				t.Fatalf("seed %d: %s: %v", seed, entry.Text(e), err)
			}
		}
		told += len(d)
		if d, err := count.Diff(b, l); len(d) > 0 || err != nil {
			t.Fatalf("seed %d: a second one: %v, %v", seed, d, err)
		}
		// What was seen is what there is now; all else is as it was.
		for _, x := range l {
			if n := b.Stock().At(x.Place, x.Lot); n != x.N {
				t.Errorf("seed %d: %v: %d", seed, x, n)
			}
		}
		for _, x := range was.Lines() {
			seen := slices.ContainsFunc(l, func(y api.Line) bool { return y.Place == x.Place && y.Lot == x.Lot })
			if n := b.Stock().At(x.Place, x.Lot); !seen && n != x.N {
				t.Errorf("seed %d: %v: %d", seed, x, n)
			}
		}
	}
	if told == 0 || refused == 0 {
		t.Error(told, refused)
	}
}

func TestRandomClasses(t *testing.T) {
	for seed := range int64(300) {
		r := rand.New(rand.NewSource(seed))
		outs := make([]int, r.Intn(9))
		all := 0
		for i := range outs {
			outs[i] = r.Intn(1 + r.Intn(30))
			all += outs[i]
		}
		// Slow: of each goods, what went of those that are ranked ahead of it.
		want := make([]string, len(outs))
		for i, n := range outs {
			ahead := 0
			for k, x := range outs {
				if x > n || x == n && k < i {
					ahead += x
				}
			}
			switch {
			case all > 0 && 5*ahead < 4*all:
				want[i] = "a"
			case all > 0 && 20*ahead < 19*all:
				want[i] = "b"
			default:
				want[i] = "c"
			}
		}
		if got := count.Classes(went(t, outs...)); !slices.Equal(got, want) {
			t.Errorf("%v: %s, not %s", outs, got, want)
		}
	}
}

// P3, P4: a sheet is only read, and no further than its length; a book stays; what is answered is new memory.
func TestAllStays(t *testing.T) {
	b := barn(t)
	do(t, b, "out l1 a-1-1 1")
	bookWas := b.Copy()
	l := sheet(t, "a-1-1 l1 8,a-2-2 l2 6,a-1-1 l1 3,a-1-1 zz -1")
	was := slices.Clone(l)
	if err := count.Check(l[:2]); err != nil {
		t.Error(err)
	}
	d, err := count.Diff(b, l[:2])
	want := "less l1 a-1-1 1,more l2 a-2-2 1"
	if told(d) != want || err != nil || !slices.Equal(l, was) {
		t.Fatal(told(d), err)
	}
	again, _ := count.Diff(b, l[:2])
	for i := range l {
		l[i] = api.Line{}
	}
	for i := range d {
		d[i] = api.Entry{}
	}
	if told(again) != want || !book.Same(b, bookWas) {
		t.Error(told(again))
	}
	classes := count.Classes(b)
	classes[0], classes[1] = "z", "z"
	if got := fmt.Sprint(count.Classes(b)); got != "[c c a]" || !book.Same(b, bookWas) {
		t.Error(got)
	}
	// Close reads no further than the length, either.
	few := []api.Entry{{N: 1}, {N: 9}}
	if !count.Close(few[:1], 1) || few[1].N != 9 {
		t.Error(few)
	}
}

// P2: alike, however often and beside whom it is asked.
func TestAlwaysAlike(t *testing.T) {
	r := rand.New(rand.NewSource(3))
	b := randomBarn(r)
	l := sheet(t, "b-1-1 l1 100,a-1-1 l1 100,a-2-2 m1 100,a-1-1 l2 100")
	ask := func() string {
		d, err := count.Diff(b, l)
		return fmt.Sprint(told(d), err, count.Check(l), count.Close(d, 95), count.Classes(b))
	}
	want := ask()
	var wait sync.WaitGroup
	var got [8]string
	for i := range got {
		wait.Go(func() { got[i] = ask() })
	}
	wait.Wait()
	for _, s := range got {
		if s != want {
			t.Error(s, want)
		}
	}
}

// FuzzDiff: sheets of any bytes.
func FuzzDiff(f *testing.F) {
	f.Add("a-1-1 l1 8\na-2-2 l2 6\nc-1-1 m1 0", 2)
	f.Add("a-1-1 l1 1099511627776\na-1-2 l1 1\na-1-1 l1 0", 0)
	f.Add("a-1-1 zz 1\n\n\xff", -1)
	f.Fuzz(func(t *testing.T, s string, bound int) {
		var l []api.Line
		for _, text := range strings.Split(s, "\n")[:min(40, 1+strings.Count(s, "\n"))] {
			w := append(strings.Split(text, " "), "", "")
			p, err := place.Read(w[0])
			if err != nil {
				p = api.Place{Zone: w[0], Row: len(text), Bay: bound}
			}
			n, err := strconv.Atoi(w[2])
			if err != nil {
				n = bound
			}
			l = append(l, api.Line{Place: p, Lot: w[1], N: n})
		}
		b := barn(t)
		wrong := count.Check(l)
		d, err := count.Diff(b, l)
		var at *api.Fault
		if err != nil {
			if d != nil || !errors.As(err, &at) || l[at.At:] == nil || wrong != nil && wrong.Error() != err.Error() {
				t.Error(told(d), err, wrong)
			}
			return
		}
		if wrong != nil || count.Close(d, bound) != (strings.Count(told(d), " ") == 0 || slices.MaxFunc(d, func(x, y api.Entry) int { return x.N - y.N }).N <= bound) {
			t.Error(told(d), wrong)
		}
		for _, e := range d {
			if entry.Check(e) != nil {
				t.Error(e)
			}
			// The book has bounds of its own: more of a lot than MaxQty are none.
			if err := b.Do(e); err != nil {
				if err != api.ErrBound {
					t.Error(err)
				}
				return
			}
		}
		if d, err := count.Diff(b, l); len(d) > 0 || err != nil {
			t.Error(told(d), err)
		}
	})
}

func ExampleDiff() {
	b := book.New()
	for _, s := range []string{"goods rye 12", "lot l1 rye 30 5", "in l1 a-1-2 5", "in l1 a-2-3 2"} {
		e, _ := entry.Read(s)
		b.Do(e)
	}
	seen := []api.Line{
		{Place: api.Place{Zone: "a", Row: 2, Bay: 3}, Lot: "l1", N: 3},
		{Place: api.Place{Zone: "a", Row: 1, Bay: 2}, Lot: "l1", N: 1},
	}
	d, err := count.Diff(b, seen)
	for _, e := range d {
		fmt.Println(entry.Text(e), b.Do(e))
	}
	fmt.Println(err, count.Close(d, 3), count.Close(d, 4))
	d, err = count.Diff(b, seen)
	fmt.Println(len(d), err)
	// Output:
	// more l1 a-2-3 1 <nil>
	// less l1 a-1-2 4 <nil>
	// <nil> false true
	// 0 <nil>
}
