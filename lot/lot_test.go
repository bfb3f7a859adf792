package lot_test

import (
	"fmt"
	"math/rand"
	"slices"
	"strings"
	"testing"

	"tithebarn/api"
	"tithebarn/lot"
)

const (
	least = -1 << 63
	most  = 1<<63 - 1
)

func of(id, code string, until, cost int) api.Lot {
	return api.Lot{ID: id, Code: code, Until: until, Cost: cost}
}

// Lots

func TestCheck(t *testing.T) {
	for want, l := range map[error][]api.Lot{
		nil: {
			of("l1", "rye", 30, 5), of("a", "b", 0, 0), of("7", "0", 1, 1), of("rye", "rye", 0, api.MaxCost), of("a", "b", api.MaxDay, 0),
			of("abcdefg9", "zyxwvut0", api.MaxDay, api.MaxCost),
		},
		api.ErrName: {
			{}, of("", "rye", 30, 5), of("l1", "", 30, 5), of("L1", "rye", 30, 5), of("l1", "Rye", 30, 5), of("l 1", "rye", 30, 5),
			of("l1", "r ye", 30, 5), of("l-1", "rye", 30, 5), of("l1", "rye\n", 30, 5), of("abcdefghi", "rye", 30, 5), of("l1", "abcdefghi", 30, 5),
			of("ä", "rye", 30, 5), of("l1", "\xff", 30, 5),
			// A name is told ahead of a bound, the goods' one, too.
			of("", "rye", -1, 5), of("", "rye", 30, -1), of("l1", "", api.MaxDay+1, 5), of("l1", "", 30, api.MaxCost+1), of("L1", "Rye", least, most),
		},
		api.ErrBound: {
			of("l1", "rye", -1, 5), of("l1", "rye", api.MaxDay+1, 5), of("l1", "rye", 30, -1), of("l1", "rye", 30, api.MaxCost+1), of("l1", "rye", -1, -1),
			of("l1", "rye", least, 5), of("l1", "rye", most, 5), of("l1", "rye", 30, least), of("l1", "rye", 30, most), of("l1", "rye", least, most),
		},
	} {
		for _, x := range l {
			if err := lot.Check(x); err != want {
				t.Errorf("Check(%+v): %v, not %v", x, err, want)
			}
			if s := lot.Text(x); (s == "") != (want != nil) {
				t.Errorf("Text(%+v) = %q", x, s)
			}
		}
	}
}

func TestText(t *testing.T) {
	for want, l := range map[string]api.Lot{
		"l1 rye 30 5":                      of("l1", "rye", 30, 5),
		"a b 0 0":                          of("a", "b", 0, 0),
		"1 2 3 4":                          of("1", "2", 3, 4),
		"abcdefg9 zyxwvut0 100000 1048576": of("abcdefg9", "zyxwvut0", api.MaxDay, api.MaxCost),
	} {
		if s := lot.Text(l); s != want {
			t.Errorf("Text(%v) = %q, not %q", l, s, want)
		}
		if got, err := lot.Read(want); got != l || err != nil {
			t.Errorf("Read(%q) = %v, %v", want, got, err)
		}
	}
}

func TestReadAsWritten(t *testing.T) {
	for _, id := range []string{"a", "0", "l1", "abcdefg9"} {
		for until := 0; until <= api.MaxDay; until = until*3 + 1 {
			for cost := 0; cost <= api.MaxCost; cost = cost*5 + 1 {
				l := of(id, "rye", until, cost)
				s := lot.Text(l)
				if got, err := lot.Read(s); s == "" || got != l || err != nil {
					t.Errorf("%v: %q is read as %v, %v", l, s, got, err)
				}
			}
		}
	}
}

func TestReadNoLot(t *testing.T) {
	long := strings.Repeat("9", 1<<16)
	for want, texts := range map[error][]string{
		api.ErrText: {
			"", " ", "  ", "   ", "    ", "l1", "l1 rye", "l1 rye 30", "l1 rye 30 ", "l1 rye  5", "l1 rye 30  5", " l1 rye 30 5", "l1 rye 30 5 ", "l1 rye 30 5 6", "l1 rye 30 5 x",
			"l1  rye 30 5", "l1 rye\t30 5", "l1\trye\t30\t5", "l1 rye 30 5\n", "\nl1 rye 30 5 6", "l1 rye 30\u00a05", "l1-rye-30-5",
			"l1 rye 030 5", "l1 rye 30 05", "l1 rye 00 5", "l1 rye 30 00", "l1 rye 1234567890 5", "l1 rye 30 1234567890", "l1 rye 0000000001 5", "l1 rye 30 000000005",
			"l1 rye -1 5", "l1 rye 30 -1", "l1 rye -0 5", "l1 rye +30 5", "l1 rye 30 +5", "l1 rye x 5", "l1 rye 30 x", "l1 rye 3x 5", "l1 rye 30 5x", "l1 rye 3.0 5", "l1 rye 30 1e3",
			"l1 rye 0x1 5", "l1 rye 1_0 5", "l1 rye ٣ 5", "l1 rye 30 ５", "l1 rye \xff 5", "l1 rye 30 5\x00",
			// The form is told ahead of a name and of a bound.
			"L1 rye x 5", " rye 30 x", "L1 Rye 30", "l1 rye 100001 x", "l1 rye x 1048577",
			"l1 rye " + long + " 5", "l1 rye 30 " + long, strings.Repeat(" ", 1<<16), strings.Repeat("a", 1<<16), strings.Repeat("a ", 1<<16),
		},
		api.ErrName: {
			"L1 rye 30 5", "l1 Rye 30 5", " rye 30 5", "l1  30 5", "  30 5", "  0 0", "abcdefghi rye 30 5", "l1 abcdefghi 30 5", "l-1 rye 30 5", "l1 r.ye 30 5", "\nl1 rye 30 5",
			"l1 rye\x00 30 5", "ä rye 30 5", "l1 \xff 30 5", strings.Repeat("a", 1<<16) + " rye 30 5", "L1 rye 100001 5", "l1 Rye 30 1048577", "l1  999999999 999999999",
		},
		api.ErrBound: {
			"l1 rye 100001 5", "l1 rye 30 1048577", "l1 rye 100001 1048577", "l1 rye 999999999 5", "l1 rye 30 999999999", "l1 rye 999999999 999999999", "l1 rye 100000000 0",
		},
	} {
		for _, s := range texts {
			if l, err := lot.Read(s); l != (api.Lot{}) || err != want {
				t.Errorf("Read(%.30q) = %v, %v, not %v", s, l, err, want)
			}
		}
	}
}

func FuzzReadAgain(f *testing.F) {
	for _, s := range []string{"", "l1 rye 30 5", "a b 0 0", "l1 rye 30", "l1 rye 30 5 ", "l1 rye 030 5", "L1 rye 30 5", "l1 rye 100001 5"} {
		f.Add(s)
	}
	f.Fuzz(func(t *testing.T, s string) {
		l, err := lot.Read(s)
		switch err {
		case nil:
			if lot.Check(l) != nil || lot.Text(l) != s {
				t.Errorf("Read(%q) = %v, which is written %q", s, l, lot.Text(l))
			}
		case api.ErrText, api.ErrName, api.ErrBound:
			if l != (api.Lot{}) {
				t.Errorf("Read(%q) = %v beside %v", s, l, err)
			}
		default:
			t.Errorf("Read(%q): %v", s, err)
		}
	})
}

// The soonest first

// rising: lots of which each is sooner than all behind it, those that are not well among them.
func rising() []api.Lot {
	return []api.Lot{
		of("", "", least, most), of("z", "rye", least, 0), of("b", "rye", -1, 0),
		{}, of("10", "rye", 0, 9), of("9", "rye", 0, 8), of("A", "rye", 0, 7), of("a", "rye", 0, 6), of("a0", "rye", 0, 5), of("aa", "rye", 0, 4), of("b", "rye", 0, 3), of("\xff", "rye", 0, 2),
		of("a", "oat", 1, 3), of("l9", "rye", 9, 1), of("l1", "rye", 10, 1), of("l10", "rye", 10, 0), of("l2", "oat", 10, 0), of("a", "rye", api.MaxDay, 0), of("a", "rye", most, 0), of("b", "", most, least),
	}
}

func TestSooner(t *testing.T) {
	l := rising()
	for i := range l {
		for k := range l {
			if got := lot.Sooner(l[i], l[k]); got != (i < k) {
				t.Errorf("Sooner(%+v, %+v) = %v", l[i], l[k], got)
			}
			if got := lot.Compare(l[i], l[k]); got < 0 != (i < k) || got == 0 != (i == k) {
				t.Errorf("Compare(%+v, %+v) = %v", l[i], l[k], got)
			}
		}
	}
}

func TestSoonerByDayAndIDAlone(t *testing.T) {
	a := of("l1", "rye", 30, 5)
	for _, b := range []api.Lot{a, of("l1", "rye", 30, 4), of("l1", "rye", 30, 6), of("l1", "oat", 30, 5), of("l1", "zea", 30, 5), of("l1", "", 30, least)} {
		if lot.Sooner(a, b) || lot.Sooner(b, a) || lot.Compare(a, b) != 0 {
			t.Errorf("%+v and %+v", a, b)
		}
	}
}

func TestOfUnlikeIDsOneIsSooner(t *testing.T) {
	ids := []string{"", "0", "10", "9", "a", "aa", "ab", "b", "l1", "l10", "l2", "A", "ä", "\xff"}
	days := []int{least, -1, 0, 1, 30, api.MaxDay, most}
	for _, x := range ids {
		for _, y := range ids {
			for _, u := range days {
				for _, v := range days {
					a, b := of(x, "rye", u, 1), of(y, "rye", v, 1)
					one, other := lot.Sooner(a, b), lot.Sooner(b, a)
					if one && other || x != y && one == other {
						t.Errorf("%+v and %+v: %v, %v", a, b, one, other)
					}
				}
			}
		}
	}
}

func TestGood(t *testing.T) {
	for _, c := range []struct {
		until, day int
		want       bool
	}{
		{30, 29, true}, {30, 30, true}, {30, 31, false}, {30, 0, true}, {30, -5, true}, {0, 0, true}, {0, 1, false}, {0, -1, true},
		{api.MaxDay, api.MaxDay, true}, {api.MaxDay, api.MaxDay + 1, false}, {30, least, true}, {30, most, false},
		{least, least, true}, {least, most, false}, {most, most, true}, {most, least, true}, {-1, 0, false}, {-1, -1, true},
	} {
		if got := lot.Good(of("l1", "rye", c.until, 5), c.day); got != c.want {
			t.Errorf("until %d, on day %d: %v", c.until, c.day, got)
		}
	}
	if !lot.Good(api.Lot{}, 0) || lot.Good(api.Lot{}, 1) {
		t.Error("a lot without a name")
	}
}

func TestSorted(t *testing.T) {
	want := rising()
	random := rand.New(rand.NewSource(1))
	for range 50 {
		l := slices.Clone(want)
		random.Shuffle(len(l), func(i, k int) { l[i], l[k] = l[k], l[i] })
		given := slices.Clone(l)
		if got := lot.Sorted(l); !slices.Equal(got, want) {
			t.Fatalf("Sorted(%+v) = %+v", given, got)
		}
		if !slices.Equal(l, given) {
			t.Fatal("what was given is changed")
		}
	}
}

// TestSortedStaysAsItStands has so many that a sort that is not stable would mix them; costs tell where a lot stood.
func TestSortedStaysAsItStands(t *testing.T) {
	random := rand.New(rand.NewSource(2))
	for _, n := range []int{2, 3, 13, 60, 500} {
		var l []api.Lot
		for i := range n {
			l = append(l, of(string(rune('a'+random.Intn(3))), "rye", random.Intn(3), i))
		}
		got := lot.Sorted(l)
		if len(got) != n {
			t.Fatalf("%d of %d", len(got), n)
		}
		seen := make([]int, n)
		for i, x := range got {
			seen[x.Cost]++
			if l[x.Cost] != x || seen[x.Cost] > 1 {
				t.Fatalf("%v did not stand there, or stands twice", x)
			}
			if i == 0 {
				continue
			}
			ahead := got[i-1]
			alike := ahead.ID == x.ID && ahead.Until == x.Until
			if lot.Sooner(x, ahead) || alike && ahead.Cost > x.Cost {
				t.Fatalf("%v behind %v", x, ahead)
			}
		}
	}
}

func TestSortedOfFew(t *testing.T) {
	for _, l := range [][]api.Lot{nil, {}, make([]api.Lot, 0, 4)} {
		if got := lot.Sorted(l); len(got) > 0 {
			t.Error(got)
		}
	}
	one := []api.Lot{of("l1", "rye", 30, 5)}
	if got := lot.Sorted(one); !slices.Equal(got, one) {
		t.Error(got)
	}
}

func TestSortedIsNewMemory(t *testing.T) {
	memory := []api.Lot{of("b", "rye", 3, 0), of("a", "rye", 3, 0), of("d", "rye", 1, 0), of("c", "rye", 1, 0)}
	given := slices.Clone(memory)
	got := lot.Sorted(memory[:2])
	if !slices.Equal(got, []api.Lot{memory[1], memory[0]}) {
		t.Error(got)
	}
	got[0], got[1] = api.Lot{}, api.Lot{}
	_ = append(got, of("z", "rye", 9, 9))
	_ = append(lot.Sorted(memory[:0]), of("z", "rye", 9, 9))
	one := lot.Sorted(memory[3:])
	one[0].Cost++
	if !slices.Equal(memory, given) {
		t.Error(memory)
	}
}

func ExampleRead() {
	l, err := lot.Read("l1 rye 30 5")
	fmt.Println(l.ID, l.Code, l.Until, l.Cost, err)
	// Output: l1 rye 30 5 <nil>
}

func ExampleSorted() {
	for _, l := range lot.Sorted([]api.Lot{{ID: "l2", Code: "rye", Until: 30}, {ID: "l3", Code: "rye", Until: 20}, {ID: "l1", Code: "rye", Until: 30}}) {
		fmt.Println(l.Until, l.ID)
	}
	// Output:
	// 20 l3
	// 30 l1
	// 30 l2
}
