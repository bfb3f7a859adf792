package place_test

import (
	"fmt"
	"math/rand"
	"slices"
	"strings"
	"testing"

	"tithebarn/api"
	"tithebarn/place"
)

const (
	least = -1 << 63
	most  = 1<<63 - 1
)

func at(zone string, row, bay int) api.Place {
	return api.Place{Zone: zone, Row: row, Bay: bay}
}

// all places of these zones, as the way goes.
func all(zones ...string) []api.Place {
	var l []api.Place
	for _, zone := range zones {
		for row := 1; row <= api.MaxRow; row++ {
			for i := range api.MaxBay {
				bay := i + 1
				if row%2 == 0 {
					bay = api.MaxBay - i
				}
				l = append(l, at(zone, row, bay))
			}
		}
	}
	return l
}

// notWell: places of which each has something wrong.
func notWell() []api.Place {
	return []api.Place{
		{}, at("", 1, 1), at("A", 1, 1), at("a-", 1, 1), at("abcdefghi", 1, 1), at("a", 0, 1), at("a", 1, 0),
		at("a", -1, 1), at("a", 1, -1), at("a", api.MaxRow+1, 1), at("a", 1, api.MaxBay+1),
		at("a", least, 1), at("a", most, 1), at("a", 1, least), at("a", 1, most), at("a", least, most), at("a", least, least), at("a", most, most),
	}
}

// Places

func TestCheck(t *testing.T) {
	for _, c := range []struct {
		p    api.Place
		want error
	}{
		{at("a", 1, 1), nil},
		{at("0", 1, 1), nil},
		{at("abcdefg9", api.MaxRow, api.MaxBay), nil},
		{at("a", api.MaxRow, 1), nil},
		{at("a", 1, api.MaxBay), nil},
		{at("", 1, 1), api.ErrName},
		{at("A", 1, 1), api.ErrName},
		{at("a-1", 1, 1), api.ErrName},
		{at("abcdefghi", 1, 1), api.ErrName},
		{at("ä", 1, 1), api.ErrName},
		{at("a", 0, 1), api.ErrBound},
		{at("a", api.MaxRow+1, 1), api.ErrBound},
		{at("a", 1, 0), api.ErrBound},
		{at("a", 1, api.MaxBay+1), api.ErrBound},
		{at("a", 1, -1), api.ErrBound},
		{at("a", -1, 1), api.ErrBound},
		{at("a", least, 1), api.ErrBound},
		{at("a", 1, least), api.ErrBound},
		{at("a", most, 1), api.ErrBound},
		{at("a", 1, most), api.ErrBound},
		{at("", 0, 0), api.ErrName},
		{at("A", api.MaxRow+1, api.MaxBay+1), api.ErrName},
	} {
		if err := place.Check(c.p); err != c.want {
			t.Errorf("Check(%v): %v, not %v", c.p, err, c.want)
		}
	}
	for _, p := range all("a", "9") {
		if err := place.Check(p); err != nil {
			t.Errorf("Check(%v): %v", p, err)
		}
	}
}

func TestText(t *testing.T) {
	for want, p := range map[string]api.Place{
		"a-1-1":          at("a", 1, 1),
		"a-2-7":          at("a", 2, 7),
		"7-10-10":        at("7", 10, 10),
		"abcdefg9-20-40": at("abcdefg9", api.MaxRow, api.MaxBay),
	} {
		if s := place.Text(p); s != want {
			t.Errorf("Text(%v) = %q, not %q", p, s, want)
		}
	}
	for _, p := range notWell() {
		if s := place.Text(p); s != "" {
			t.Errorf("Text(%v) = %q", p, s)
		}
	}
}

func TestReadAsWritten(t *testing.T) {
	for _, p := range all("a", "0", "abcdefg9") {
		s := place.Text(p)
		if q, err := place.Read(s); s == "" || q != p || err != nil {
			t.Errorf("%v: %q is read as %v, %v", p, s, q, err)
		}
	}
}

func TestReadNoPlace(t *testing.T) {
	for want, texts := range map[error][]string{
		api.ErrText: {
			"", "a", "-", "--", "---", "a-", "a--", "a-1", "a-1-", "a--1", "-1", "--1", "1-1", "a-1-1-", "a-1-1-1", "-a-1-1", "a--1-1",
			"a-01-1", "a-1-01", "a-00-1", "a-1-00", "a-0001-1", "a-1-0001", "a-12345-1", "a-1-12345", "a-10000-1", "a-00001-1",
			"a-+1-1", "a-1-+1", "a-1--1", "a-x-1", "a-1-x", "a-1x-1", "a-1-1x", "a-1.0-1", "a-1-1e1", "a-0x1-1",
			" a -1-1 ", "a- 1-1", "a-1 -1", "a-1- 1", "a-1-1 ", "a-1-1\n", "a-1-1\x00", "a-٣-1", "a-1-１", "a-\xff-1",
			"a_1_1", "a 1 1", "a–1–1", "A-x-1", "-x-1", "A-1", "a-99999-99999",
			"a-" + strings.Repeat("9", 1<<16) + "-1", "a-1-" + strings.Repeat("9", 1<<16), strings.Repeat("-", 1<<16), strings.Repeat("a", 1<<16),
		},
		api.ErrName: {
			"-1-1", "A-1-1", " a-1-1", "a -1-1", "abcdefghi-1-1", "ä-1-1", "\xff-1-1", "\x00-1-1", "a.-1-1", strings.Repeat("a", 1<<16) + "-1-1",
			"-0-0", "A-0-0", "A-21-41", "-9999-9999",
		},
		api.ErrBound: {
			"a-0-1", "a-1-0", "a-0-0", "a-21-1", "a-1-41", "a-20-41", "a-21-40", "a-9999-1", "a-1-9999", "a-9999-9999", "a-100-1", "a-1-100",
		},
	} {
		for _, s := range texts {
			if p, err := place.Read(s); p != (api.Place{}) || err != want {
				t.Errorf("Read(%.20q) = %v, %v, not %v", s, p, err, want)
			}
		}
	}
}

func FuzzReadAgain(f *testing.F) {
	for _, s := range []string{"", "a-1-1", "b12-20-40", "a-1", "a-1-1-1", "a-01-1", "-1-1", "a-21-1"} {
		f.Add(s)
	}
	f.Fuzz(func(t *testing.T, s string) {
		p, err := place.Read(s)
		switch err {
		case nil:
			if place.Check(p) != nil || place.Text(p) != s {
				t.Errorf("Read(%q) = %v, which is written %q", s, p, place.Text(p))
			}
		case api.ErrText, api.ErrName, api.ErrBound:
			if p != (api.Place{}) {
				t.Errorf("Read(%q) = %v beside %v", s, p, err)
			}
		default:
			t.Errorf("Read(%q): %v", s, err)
		}
	})
}

// The way

func TestAheadOnTheWholeWay(t *testing.T) {
	// Names rise by their bytes: a digit comes ahead of a letter, a beginning ahead of the whole.
	way := all("10", "9", "a", "a0", "aa", "b")
	for i := range way {
		for _, k := range []int{0, i - 800, i - 41, i - 1, i, i + 1, i + 39, i + 801, len(way) - 1} {
			if k < 0 || k >= len(way) {
				continue
			}
			if got := place.Ahead(way[i], way[k]); got != (i < k) {
				t.Errorf("Ahead(%v, %v) = %v", way[i], way[k], got)
			}
			if got := place.Compare(way[i], way[k]); got < 0 != (i < k) || got == 0 != (i == k) {
				t.Errorf("Compare(%v, %v) = %v", way[i], way[k], got)
			}
		}
	}
}

func TestAheadByPairs(t *testing.T) {
	for _, c := range [][2]api.Place{
		{at("a", 1, 1), at("a", 1, 2)},
		{at("a", 1, 9), at("a", 1, 10)},
		{at("a", 2, 7), at("a", 2, 3)},
		{at("a", 2, 10), at("a", 2, 9)},
		{at("a", 1, 40), at("a", 2, 40)},
		{at("a", 1, 40), at("a", 2, 1)},
		{at("a", 2, 1), at("a", 3, 1)},
		{at("a", 2, 1), at("a", 3, 40)},
		{at("a", 2, 5), at("a", 10, 5)},
		{at("a", 9, 5), at("a", 10, 5)},
		{at("a", 19, 1), at("a", 19, 40)},
		{at("a", 20, 40), at("a", 20, 1)},
		{at("a", 20, 1), at("b", 1, 1)},
		{at("10", 20, 1), at("9", 1, 40)},
		{at("a", 20, 1), at("a0", 1, 1)},
		// No places of a barn: odd and even are told of them, too.
		{at("a", -1, 1), at("a", -1, 2)},
		{at("a", -2, 2), at("a", -2, 1)},
		{at("a", 0, 2), at("a", 0, 1)},
	} {
		if !place.Ahead(c[0], c[1]) || place.Ahead(c[1], c[0]) {
			t.Errorf("%v does not come ahead of %v", c[0], c[1])
		}
	}
}

func TestOfTwoUnlikeOneIsAhead(t *testing.T) {
	l := append(notWell(), all("a", "b")[:90]...)
	for _, a := range l {
		for _, b := range l {
			ahead, behind := place.Ahead(a, b), place.Ahead(b, a)
			if a == b && (ahead || behind) || a != b && ahead == behind {
				t.Errorf("%v and %v: %v, %v", a, b, ahead, behind)
			}
		}
	}
}

func TestWalk(t *testing.T) {
	way := all("a", "b")
	// Some stand more than once, and one that is not well goes along.
	way = append(way[:5:5], way...)
	slices.SortFunc(way[:10], place.Compare)
	way = append([]api.Place{{}}, way...)
	random := rand.New(rand.NewSource(1))
	for range 20 {
		l := slices.Clone(way)
		random.Shuffle(len(l), func(i, k int) { l[i], l[k] = l[k], l[i] })
		given := slices.Clone(l)
		if got := place.Walk(l); !slices.Equal(got, way) {
			t.Fatalf("Walk(%v) = %v", given, got)
		}
		if !slices.Equal(l, given) {
			t.Fatal("what was given is changed")
		}
	}
}

func TestWalkOfFew(t *testing.T) {
	for _, l := range [][]api.Place{nil, {}, make([]api.Place, 0, 4)} {
		if got := place.Walk(l); len(got) > 0 {
			t.Error(got)
		}
	}
	one := []api.Place{at("a", 2, 3)}
	if got := place.Walk(one); !slices.Equal(got, one) {
		t.Error(got)
	}
	twice := []api.Place{at("a", 2, 3), at("a", 2, 7), at("a", 2, 3)}
	if got := place.Walk(twice); !slices.Equal(got, []api.Place{at("a", 2, 7), at("a", 2, 3), at("a", 2, 3)}) {
		t.Error(got)
	}
}

func TestWalkIsNewMemory(t *testing.T) {
	memory := []api.Place{at("b", 1, 1), at("a", 1, 1), at("c", 1, 1), at("a", 2, 2)}
	l := memory[:2]
	got := place.Walk(l)
	got[0], got[1] = at("x", 1, 1), at("y", 1, 1)
	_ = append(got, at("z", 1, 1))
	_ = append(place.Walk(memory[:0]), at("z", 1, 1))
	if !slices.Equal(memory, []api.Place{at("b", 1, 1), at("a", 1, 1), at("c", 1, 1), at("a", 2, 2)}) {
		t.Error(memory)
	}
}

// Steps

func TestSteps(t *testing.T) {
	for _, c := range []struct {
		a, b api.Place
		want int
	}{
		{at("a", 1, 1), at("a", 1, 1), 0},
		{at("a", 1, 1), at("a", 1, 5), 4},
		{at("a", 2, 7), at("a", 2, 3), 4},
		{at("a", 20, 40), at("a", 20, 1), 39},
		{at("a", 1, 1), at("a", 2, 1), 4},
		{at("a", 1, 5), at("a", 2, 9), 16},
		{at("a", 1, 1), at("a", 3, 3), 8},
		{at("a", 1, 40), at("a", 20, 40), 118},
		{at("a", 1, 1), at("b", 1, 1), 106},
		{at("a", 3, 7), at("b", 5, 9), 132},
		{at("a", 5, 7), at("b", 5, 7), 134},
		{at("a", 20, 40), at("b", 20, 40), 260},
	} {
		if n := place.Steps(c.a, c.b); n != c.want {
			t.Errorf("Steps(%v, %v) = %d, not %d", c.a, c.b, n, c.want)
		}
	}
	for _, p := range notWell() {
		for _, q := range append(notWell(), at("a", 1, 1), at("b", 2, 2)) {
			if n, m := place.Steps(p, q), place.Steps(q, p); n != 0 || m != 0 {
				t.Errorf("Steps of %v and %v: %d, %d", p, q, n, m)
			}
		}
	}
}

// some places of three zones: at both ends of rows, and in between.
func some() []api.Place {
	var l []api.Place
	for _, zone := range []string{"a", "b", "c"} {
		for _, row := range []int{1, 2, 7, api.MaxRow} {
			for _, bay := range []int{1, 2, 13, api.MaxBay} {
				l = append(l, at(zone, row, bay))
			}
		}
	}
	return l
}

func TestStepsBackAndByAThird(t *testing.T) {
	l := some()
	for _, a := range l {
		for _, b := range l {
			n := place.Steps(a, b)
			if back := place.Steps(b, a); back != n || n < 0 || (n == 0) != (a == b) {
				t.Errorf("%v to %v: %d, back %d", a, b, n, back)
			}
			for _, c := range l {
				if by := place.Steps(a, c) + place.Steps(c, b); by < n {
					t.Errorf("%v to %v: %d, by %v: %d", a, b, n, c, by)
				}
			}
		}
	}
}

func ExampleAhead() {
	a, _ := place.Read("a-2-7")
	b, _ := place.Read("a-2-3")
	fmt.Println(place.Ahead(a, b))
	// Output: true
}
