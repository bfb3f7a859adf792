package entry_test

import (
	"fmt"
	"math/rand"
	"slices"
	"strings"
	"testing"

	"tithebarn/api"
	"tithebarn/entry"
)

const (
	least = -1 << 63
	most  = 1<<63 - 1
)

func at(zone string, row, bay int) api.Place {
	return api.Place{Zone: zone, Row: row, Bay: bay}
}

// well: an entry of each kind, by its text.
func well() map[string]api.Entry {
	l1, a, b := api.Lot{ID: "l1"}, at("a", 1, 2), at("b", 3, 4)
	return map[string]api.Entry{
		"goods rye 12":           {Kind: "goods", Goods: api.Goods{Code: "rye", Pack: 12}},
		"lot l1 rye 30 5":        {Kind: "lot", Lot: api.Lot{ID: "l1", Code: "rye", Until: 30, Cost: 5}},
		"in l1 a-1-2 5":          {Kind: "in", Lot: l1, To: a, N: 5},
		"out l1 a-1-2 5":         {Kind: "out", Lot: l1, From: a, N: 5},
		"move l1 a-1-2 b-3-4 5":  {Kind: "move", Lot: l1, From: a, To: b, N: 5},
		"move l1 b-3-4 a-1-2 15": {Kind: "move", Lot: l1, From: b, To: a, N: 15},
		"more l1 a-1-2 5":        {Kind: "more", Lot: l1, To: a, N: 5},
		"less l1 a-1-2 5":        {Kind: "less", Lot: l1, From: a, N: 5},
		"hold l1 5":              {Kind: "hold", Lot: l1, N: 5},
		"free l1 5":              {Kind: "free", Lot: l1, N: 5},
	}
}

// edges: entries as small and as great as they may be, by their texts.
func edges() map[string]api.Entry {
	l0, l9 := api.Lot{ID: "0"}, api.Lot{ID: "abcdefg9"}
	first, last := at("0", 1, 1), at("abcdefg9", api.MaxRow, api.MaxBay)
	return map[string]api.Entry{
		"goods 0 1":                            {Kind: "goods", Goods: api.Goods{Code: "0", Pack: 1}},
		"goods abcdefg9 1000":                  {Kind: "goods", Goods: api.Goods{Code: "abcdefg9", Pack: api.MaxPack}},
		"lot 0 0 0 0":                          {Kind: "lot", Lot: api.Lot{ID: "0", Code: "0"}},
		"lot abcdefg9 zyxwvut0 100000 1048576": {Kind: "lot", Lot: api.Lot{ID: "abcdefg9", Code: "zyxwvut0", Until: api.MaxDay, Cost: api.MaxCost}},
		"in 0 0-1-1 1":                         {Kind: "in", Lot: l0, To: first, N: 1},
		"in abcdefg9 abcdefg9-20-40 1099511627776":         {Kind: "in", Lot: l9, To: last, N: api.MaxQty},
		"out abcdefg9 abcdefg9-20-40 1099511627776":        {Kind: "out", Lot: l9, From: last, N: api.MaxQty},
		"move abcdefg9 0-1-1 abcdefg9-20-40 1099511627776": {Kind: "move", Lot: l9, From: first, To: last, N: api.MaxQty},
		"more abcdefg9 abcdefg9-20-40 1099511627776":       {Kind: "more", Lot: l9, To: last, N: api.MaxQty},
		"less abcdefg9 abcdefg9-20-40 1099511627776":       {Kind: "less", Lot: l9, From: last, N: api.MaxQty},
		"hold 0 1":                      {Kind: "hold", Lot: l0, N: 1},
		"hold abcdefg9 1099511627776":   {Kind: "hold", Lot: l9, N: api.MaxQty},
		"free abcdefg9 1099511627776":   {Kind: "free", Lot: l9, N: api.MaxQty},
		"move l1 a-1-1 a-1-2 1":         {Kind: "move", Lot: api.Lot{ID: "l1"}, From: at("a", 1, 1), To: at("a", 1, 2), N: 1},
		"move l1 a-1-1 a-2-1 1":         {Kind: "move", Lot: api.Lot{ID: "l1"}, From: at("a", 1, 1), To: at("a", 2, 1), N: 1},
		"move l1 a-1-1 b-1-1 1":         {Kind: "move", Lot: api.Lot{ID: "l1"}, From: at("a", 1, 1), To: at("b", 1, 1), N: 1},
		"in in in-1-1 1":                {Kind: "in", Lot: api.Lot{ID: "in"}, To: at("in", 1, 1), N: 1},
		"goods goods 7":                 {Kind: "goods", Goods: api.Goods{Code: "goods", Pack: 7}},
		"lot lot lot 1 2":               {Kind: "lot", Lot: api.Lot{ID: "lot", Code: "lot", Until: 1, Cost: 2}},
		"free 1 2":                      {Kind: "free", Lot: api.Lot{ID: "1"}, N: 2},
		"move l1 a-1-11 a-11-1 1000000": {Kind: "move", Lot: api.Lot{ID: "l1"}, From: at("a", 1, 11), To: at("a", 11, 1), N: 1000000},
	}
}

// checkIs: what Check answers, and whether there is a text, which is so just where it is well.
func checkIs(t *testing.T, e api.Entry, want error) {
	t.Helper()
	if err := entry.Check(e); err != want {
		t.Errorf("Check(%+v): %v, not %v", e, err, want)
	}
	if s := entry.Text(e); (s == "") != (want != nil) {
		t.Errorf("Text(%+v) = %q", e, s)
	}
}

// P50: kinds and their fields

func TestKinds(t *testing.T) {
	for _, e := range well() {
		checkIs(t, e, nil)
	}
	for _, e := range edges() {
		checkIs(t, e, nil)
	}
}

func TestNoKind(t *testing.T) {
	kinds := []string{"", " ", "In", "IN", "in ", " in", "i", "inn", "goods ", "lots", "good", "holds", "take", "in\n", "in\x00", "ｉｎ", "\xff", strings.Repeat("in", 1<<12)}
	for _, kind := range kinds {
		checkIs(t, api.Entry{Kind: kind}, api.ErrKind)
		for _, e := range well() {
			e.Kind = kind
			checkIs(t, e, api.ErrKind)
		}
	}
	// The kind is told ahead of all else.
	checkIs(t, api.Entry{Kind: "x", Goods: api.Goods{Pack: -1}, Lot: api.Lot{ID: "L", Until: -1}, From: at("", -1, -1), To: at("", -1, -1), N: -1}, api.ErrKind)
}

func TestEmptyOfAKind(t *testing.T) {
	for _, e := range well() {
		checkIs(t, api.Entry{Kind: e.Kind}, api.ErrName)
	}
}

// fault of an entry: how it is made, and what is told of it.
type fault struct {
	name string
	make func(e *api.Entry)
	want error
}

func badName(name string, field func(e *api.Entry) *string) fault {
	return fault{name, func(e *api.Entry) { *field(e) = "R" }, api.ErrName}
}

func badNumber(name string, number int, field func(e *api.Entry) *int) fault {
	return fault{name, func(e *api.Entry) { *field(e) = number }, api.ErrBound}
}

func id(e *api.Entry) *string       { return &e.Lot.ID }
func number(e *api.Entry) *int      { return &e.N }
func fromZone(e *api.Entry) *string { return &e.From.Zone }
func fromRow(e *api.Entry) *int     { return &e.From.Row }
func fromBay(e *api.Entry) *int     { return &e.From.Bay }
func toZone(e *api.Entry) *string   { return &e.To.Zone }
func toRow(e *api.Entry) *int       { return &e.To.Row }
func toBay(e *api.Entry) *int       { return &e.To.Bay }

// faults of a kind, in the order in which they are told; those of a field that the kind has not stand aside.
func faults(kind string) []fault {
	switch kind {
	case "goods":
		return []fault{
			badName("code", func(e *api.Entry) *string { return &e.Goods.Code }),
			badNumber("pack", api.MaxPack+1, func(e *api.Entry) *int { return &e.Goods.Pack }),
		}
	case "lot":
		return []fault{
			badName("ID", id),
			badName("code", func(e *api.Entry) *string { return &e.Lot.Code }),
			badNumber("until", api.MaxDay+1, func(e *api.Entry) *int { return &e.Lot.Until }),
			badNumber("cost", -1, func(e *api.Entry) *int { return &e.Lot.Cost }),
		}
	}
	from := []fault{badName("from's zone", fromZone), badNumber("from's row", api.MaxRow+1, fromRow), badNumber("from's bay", 0, fromBay)}
	to := []fault{badName("to's zone", toZone), badNumber("to's row", 0, toRow), badNumber("to's bay", api.MaxBay+1, toBay)}
	l := []fault{badName("ID", id)}
	switch kind {
	case "in", "more":
		l = append(l, to...)
	case "out", "less":
		l = append(l, from...)
	case "move":
		l = append(append(l, from...), to...)
	}
	return append(l, badNumber("N", 0, number))
}

// TestFirstFault: of all sets of faults the first one is told, also where fields are not zero that the kind has not.
func TestFirstFault(t *testing.T) {
	for s, e := range well() {
		l := faults(e.Kind)
		for set := range 1 << len(l) {
			bad, want, names := e, error(nil), ""
			for i, f := range l {
				if set&(1<<i) == 0 {
					continue
				}
				f.make(&bad)
				names += f.name + ", "
				if want == nil {
					want = f.want
				}
			}
			if err := entry.Check(bad); err != want {
				t.Errorf("%s: %s%v, not %v", s, names, err, want)
			}
			if want == nil {
				want = api.ErrShape
			}
			for _, f := range strangeTo(e.Kind) {
				strange := bad
				f.set(&strange)
				if err := entry.Check(strange); err != want {
					t.Errorf("%s: %s%s is not zero: %v, not %v", s, names, f.name, err, want)
				}
			}
		}
	}
}

func TestNumbers(t *testing.T) {
	for _, kind := range []string{"in", "out", "move", "more", "less", "hold", "free"} {
		for _, e := range well() {
			if e.Kind != kind {
				continue
			}
			for n, want := range map[int]error{1: nil, 2: nil, api.MaxQty - 1: nil, api.MaxQty: nil, 0: api.ErrBound, -1: api.ErrBound, api.MaxQty + 1: api.ErrBound, least: api.ErrBound, most: api.ErrBound} {
				e.N = n
				checkIs(t, e, want)
			}
		}
	}
}

func TestMoveToItself(t *testing.T) {
	e := well()["move l1 a-1-2 b-3-4 5"]
	e.To = e.From
	checkIs(t, e, api.ErrShape)
	for n, want := range map[int]error{0: api.ErrBound, -1: api.ErrBound, api.MaxQty + 1: api.ErrBound, api.MaxQty: api.ErrShape} {
		e.N = n
		checkIs(t, e, want)
	}
	e.Lot.ID = ""
	checkIs(t, e, api.ErrName)
	checkIs(t, api.Entry{Kind: "move", Lot: api.Lot{ID: "l1"}, N: 1}, api.ErrName)
	checkIs(t, api.Entry{Kind: "move", Lot: api.Lot{ID: "l1"}, From: at("a", 0, 1), To: at("a", 0, 1), N: 1}, api.ErrBound)
}

// field of an entry, by its name, and how it becomes another one than zero.
type field struct {
	name string
	set  func(e *api.Entry)
}

func allFields() []field {
	return []field{
		{"goods.code", func(e *api.Entry) { e.Goods.Code = "rye" }},
		{"goods.pack", func(e *api.Entry) { e.Goods.Pack = 1 }},
		{"goods.pack", func(e *api.Entry) { e.Goods.Pack = least }},
		{"lot.id", func(e *api.Entry) { e.Lot.ID = "l1" }},
		{"lot.id", func(e *api.Entry) { e.Lot.ID = " " }},
		{"lot.code", func(e *api.Entry) { e.Lot.Code = "rye" }},
		{"lot.until", func(e *api.Entry) { e.Lot.Until = 1 }},
		{"lot.until", func(e *api.Entry) { e.Lot.Until = -1 }},
		{"lot.cost", func(e *api.Entry) { e.Lot.Cost = 1 }},
		{"lot.cost", func(e *api.Entry) { e.Lot.Cost = most }},
		{"from", func(e *api.Entry) { e.From = at("c", 5, 6) }},
		{"from", func(e *api.Entry) { e.From.Zone = "c" }},
		{"from", func(e *api.Entry) { e.From.Row = 1 }},
		{"from", func(e *api.Entry) { e.From.Bay = -1 }},
		{"from", func(e *api.Entry) { e.From = e.To; e.From.Bay++ }},
		{"to", func(e *api.Entry) { e.To = at("c", 5, 6) }},
		{"to", func(e *api.Entry) { e.To.Zone = "\xff" }},
		{"to", func(e *api.Entry) { e.To.Row = -1 }},
		{"to", func(e *api.Entry) { e.To.Bay = 1 }},
		{"to", func(e *api.Entry) { e.To = e.From; e.To.Bay++ }},
		{"n", func(e *api.Entry) { e.N = 1 }},
		{"n", func(e *api.Entry) { e.N = -1 }},
	}
}

// strangeTo a kind: the fields that it has not.
func strangeTo(kind string) []field {
	own := map[string]string{
		"goods": "goods.code goods.pack",
		"lot":   "lot.id lot.code lot.until lot.cost",
		"in":    "lot.id to n",
		"out":   "lot.id from n",
		"move":  "lot.id from to n",
		"more":  "lot.id to n",
		"less":  "lot.id from n",
		"hold":  "lot.id n",
		"free":  "lot.id n",
	}[kind]
	return slices.DeleteFunc(allFields(), func(f field) bool { return slices.Contains(strings.Fields(own), f.name) })
}

func TestFieldsOfOtherKinds(t *testing.T) {
	for _, e := range well() {
		for _, f := range strangeTo(e.Kind) {
			strange := e
			f.set(&strange)
			checkIs(t, strange, api.ErrShape)
		}
	}
	e := well()["in l1 a-1-2 5"]
	e.From = e.To
	checkIs(t, e, api.ErrShape)
	e = well()["out l1 a-1-2 5"]
	e.To = e.From
	checkIs(t, e, api.ErrShape)
}

// P51: texts

func TestTexts(t *testing.T) {
	for _, entries := range []map[string]api.Entry{well(), edges()} {
		for s, e := range entries {
			if got := entry.Text(e); got != s {
				t.Errorf("Text(%+v) = %q, not %q", e, got, s)
			}
			if got, err := entry.Read(s); got != e || err != nil {
				t.Errorf("Read(%q) = %+v, %v", s, got, err)
			}
		}
	}
}

// readsNone: each text is read as nothing, with that error.
func readsNone(t *testing.T, want error, texts ...string) {
	t.Helper()
	for _, s := range texts {
		if e, err := entry.Read(s); e != (api.Entry{}) || err != want {
			t.Errorf("Read(%.40q) = %+v, %v, not %v", s, e, err, want)
		}
	}
}

func TestReadNoKind(t *testing.T) {
	readsNone(t, api.ErrKind,
		"", " ", "  ", "what", "what l1 5", "In l1 a-1-2 5", "IN", " in l1 a-1-2 5", "\nin l1 a-1-2 5", "in\tl1 a-1-2 5", "in\n", "in\u00a0l1 a-1-2 5", "inn l1 a-1-2 5",
		"i l1 a-1-2 5", "goods:rye 12", "lots l1 rye 30 5", "l1 in a-1-2 5", "5", "rye", "hold-l1-5", "\x00", "\xff", "day 5", "order rye 5", "count rye", "post 0",
		// The kind is told ahead of words and numbers.
		"what x", "what l1 a-1-2 05", "holds", "holds l1 x",
		strings.Repeat(" ", 1<<16), strings.Repeat("in", 1<<16), strings.Repeat("x ", 1<<16),
	)
}

// TestReadOtherNumberOfWords: each text without its last words, and with more of them.
func TestReadOtherNumberOfWords(t *testing.T) {
	for s := range well() {
		w := strings.Split(s, " ")
		for k := 1; k < len(w); k++ {
			readsNone(t, api.ErrText, strings.Join(w[:k], " "))
		}
		readsNone(t, api.ErrText, w[0]+" ", s+" ", s+" 5", s+" x", s+" 5 5", s+"  ", s+strings.Repeat(" 5", 1<<12), w[0]+strings.Repeat(" ", 1<<12))
	}
	readsNone(t, api.ErrText, "in l1 a-1-2 b-3-4 5", "out l1 a-1-2 b-3-4 5", "more l1 a-1-2 b-3-4 5", "less l1 a-1-2 b-3-4 5", "move l1 a-1-2 5", "hold l1 a-1-2 5", "free l1 a-1-2 5",
		"in  l1 a-1-2 5", "hold  l1 5", "hold l1  5", "goods rye  12", "goods  rye 12", "lot l1 rye 30 5 6", "lot  l1 rye 30 5", "in l1 5", "in l1 a 1 2 5", "in in l1 a-1-2 5")
}

func TestReadNoNumber(t *testing.T) {
	none := []string{"", "x", "05", "00", "-1", "-0", "+5", "5x", "x5", "0x5", "1e3", "1_0", "5.0", "5\n", "5\t", "\n5", "5\x00", "٣", "５", "\xff", "12345678901234", "00000000000001", strings.Repeat("9", 1<<16)}
	for s, e := range well() {
		ahead := s[:strings.LastIndex(s, " ")+1]
		for _, n := range none {
			readsNone(t, api.ErrText, ahead+n)
		}
		if e.Kind == "lot" {
			continue
		}
		// Thirteen digits are a number, and one that is told behind.
		readsNone(t, api.ErrBound, ahead+"9999999999999", ahead+"0")
	}
	for _, n := range none {
		readsNone(t, api.ErrText, "lot l1 rye "+n+" 5")
	}
	readsNone(t, api.ErrText, "lot l1 rye 30 1234567890", "lot l1 rye 1234567890 5", "lot l1 rye 30 1000000000")
	readsNone(t, api.ErrBound, "lot l1 rye 30 999999999", "lot l1 rye 999999999 5", "goods rye 1000000000", "goods rye 9999999999999")
}

func TestReadWordsAheadOfPlaces(t *testing.T) {
	// A number that is none is told ahead of places and names.
	readsNone(t, api.ErrText, "in l1 a-0-2 x", "in l1 A-1-2 05", "out L a-0-2 -1", "move l1 a-0-2 A-1-1 x", "more l1 A-1-2 12345678901234", "hold L x", "goods R x", "lot L Rye x 5",
		"in L a-0-2", "move L a-0-2 5", "less l1 A-1-2 5 5")
}

func TestReadPlaces(t *testing.T) {
	for _, c := range []struct {
		places []string
		want   error
	}{
		{[]string{"", "a", "a-1", "a-1-", "a-1-x", "a-1-2-3", "a-01-2", "a-1-02", "a--1-2", "a-12345-2", "a-1-12345", "-", "5", "a.1.2", "a-1-2\n"}, api.ErrText},
		{[]string{"-1-2", "A-1-2", "abcdefghi-1-2", "ä-1-2", "\n-1-2", "A-0-2"}, api.ErrName},
		{[]string{"a-0-2", "a-1-0", "a-21-2", "a-1-41", "a-9999-2", "a-1-9999"}, api.ErrBound},
	} {
		for _, p := range c.places {
			readsNone(t, c.want, "in l1 "+p+" 5", "out l1 "+p+" 5", "more l1 "+p+" 5", "less l1 "+p+" 5", "move l1 "+p+" b-3-4 5", "move l1 a-1-2 "+p+" 5")
			// A place is told ahead of the lot's name and of the number's bound.
			readsNone(t, c.want, "in L "+p+" 5", "out l1 "+p+" 0", "more  "+p+" 0", "less abcdefghi "+p+" 9999999999999", "move L "+p+" b-3-4 0", "move L a-1-2 "+p+" 0")
			// The one it comes from is told ahead of the one it goes to.
			readsNone(t, c.want, "move l1 "+p+" A-1-2 5", "move l1 "+p+" a-0-2 5", "move l1 "+p+" x 5", "move l1 "+p+" "+p+" 5")
		}
	}
}

func TestReadChecks(t *testing.T) {
	readsNone(t, api.ErrName, "goods  12", "goods Rye 12", "goods abcdefghi 12", "goods R 0", "goods r\n 12", "lot L rye 30 5", "lot l1 Rye 30 5", "lot  rye 30 5", "lot l1  30 5", "lot L rye 100001 5",
		"in L a-1-2 5", "in  a-1-2 5", "in abcdefghi a-1-2 5", "in L a-1-2 0", "out L a-1-2 5", "move L a-1-2 b-3-4 5", "move L a-1-2 a-1-2 0", "more L a-1-2 5", "less L a-1-2 5",
		"hold  5", "hold L 5", "hold L 0", "free l.1 5", "free \xff 5", "hold "+strings.Repeat("a", 1<<16)+" 5")
	readsNone(t, api.ErrBound, "goods rye 0", "goods rye 1001", "lot l1 rye 100001 5", "lot l1 rye 30 1048577", "in l1 a-1-2 0", "in l1 a-1-2 1099511627777", "out l1 a-1-2 0", "out l1 a-1-2 1099511627777",
		"move l1 a-1-2 b-3-4 0", "move l1 a-1-2 b-3-4 1099511627777", "move l1 a-1-2 a-1-2 0", "more l1 a-1-2 0", "less l1 a-1-2 1099511627777", "hold l1 0", "hold l1 1099511627777", "free l1 0", "free l1 9999999999999")
	readsNone(t, api.ErrShape, "move l1 a-1-2 a-1-2 5", "move l1 a-1-2 a-1-2 1099511627776")
}

// P52: read as written

func randomPlace(random *rand.Rand) api.Place {
	return at(randomName(random), 1+random.Intn(api.MaxRow), 1+random.Intn(api.MaxBay))
}

func randomName(random *rand.Rand) string {
	const letters = "abcdefghijklmnopqrstuvwxyz0123456789"
	name := ""
	for range 1 + random.Intn(api.MaxName) {
		name += letters[random.Intn(len(letters)):][:1]
	}
	return name
}

func randomEntry(random *rand.Rand) api.Entry {
	kinds := []string{"goods", "lot", "in", "out", "move", "more", "less", "hold", "free"}
	e := api.Entry{Kind: kinds[random.Intn(len(kinds))]}
	switch e.Kind {
	case "goods":
		e.Goods = api.Goods{Code: randomName(random), Pack: 1 + random.Intn(api.MaxPack)}
		return e
	case "lot":
		e.Lot = api.Lot{ID: randomName(random), Code: randomName(random), Until: random.Intn(api.MaxDay + 1), Cost: random.Intn(api.MaxCost + 1)}
		return e
	case "in", "more":
		e.To = randomPlace(random)
	case "out", "less":
		e.From = randomPlace(random)
	case "move":
		for e.From == e.To {
			e.From, e.To = randomPlace(random), randomPlace(random)
		}
	}
	e.Lot.ID, e.N = randomName(random), 1+random.Intn(api.MaxQty>>random.Intn(41))
	return e
}

func TestReadAsWritten(t *testing.T) {
	random := rand.New(rand.NewSource(5))
	by := map[string]api.Entry{}
	for range 20000 {
		e := randomEntry(random)
		s := entry.Text(e)
		if got, err := entry.Read(s); s == "" || got != e || err != nil {
			t.Fatalf("%+v: %q is read as %+v, %v", e, s, got, err)
		}
		if other, ok := by[s]; ok && other != e {
			t.Fatalf("%+v and %+v are both %q", e, other, s)
		}
		by[s] = e
	}
}

func FuzzReadAgain(f *testing.F) {
	for s := range well() {
		f.Add(s)
		f.Add(s + " ")
		f.Add(s + "0")
	}
	for s := range edges() {
		f.Add(s)
	}
	for _, s := range []string{"", "what", "in l1 a-0-2 5", "in L a-1-2 5", "move l1 a-1-2 a-1-2 5", "goods  12"} {
		f.Add(s)
	}
	f.Fuzz(func(t *testing.T, s string) {
		e, err := entry.Read(s)
		switch err {
		case nil:
			if entry.Check(e) != nil || entry.Text(e) != s {
				t.Errorf("Read(%q) = %+v, which is written %q", s, e, entry.Text(e))
			}
		case api.ErrKind, api.ErrText, api.ErrName, api.ErrBound, api.ErrShape:
			if e != (api.Entry{}) {
				t.Errorf("Read(%q) = %+v beside %v", s, e, err)
			}
		default:
			t.Errorf("Read(%q): %v", s, err)
		}
	})
}

func ExampleRead() {
	e, err := entry.Read("in l1 a-1-2 5")
	fmt.Println(e.Kind, e.Lot.ID, e.To, e.N, err)
	// Output: in l1 {a 1 2} 5 <nil>
}

func ExampleText() {
	fmt.Println(entry.Text(api.Entry{Kind: entry.Move, Lot: api.Lot{ID: "l1"}, From: at("a", 1, 2), To: at("b", 3, 4), N: 5}))
	// Output: move l1 a-1-2 b-3-4 5
}
