package task_test

import (
	"errors"
	"fmt"
	"math/rand"
	"slices"
	"strconv"
	"strings"
	"sync"
	"testing"

	"tithebarn/api"
	"tithebarn/book"
	"tithebarn/count"
	"tithebarn/entry"
	"tithebarn/place"
	"tithebarn/task"
)

const (
	least = -1 << 63
	most  = 1<<63 - 1
)

// made of texts, all of which must be done.
func made(t testing.TB, texts ...string) *book.Book {
	t.Helper()
	b := book.New()
	for _, s := range texts {
		e, err := entry.Read(s)
		if err == nil {
			err = b.Do(e)
		}
		if err != nil {
			t.Fatalf("%q: %v", s, err)
		}
	}
	return b
}

// barn: rye in two lots, and malt in one.
func barn(t testing.TB) *book.Book {
	t.Helper()
	return made(t, "goods rye 6", "goods malt 1", "lot l1 rye 9 3", "lot l2 rye 5 2", "lot m1 malt 9 1",
		"in l1 a-1-1 10", "in l1 b-2-3 4", "in l2 a-1-1 1", "in l2 a-2-2 5", "in m1 c-1-1 8", "hold l1 6")
}

// sheet of lines, a comma between: place, lot, number. The numbers are any.
func sheet(t testing.TB, text string) []api.Line {
	t.Helper()
	var l []api.Line
	for _, s := range strings.Split(text, ",") {
		w := strings.Split(s, " ")
		if len(w) != 3 {
			continue
		}
		part := strings.SplitN(w[0], "-", 3)
		row, bad := strconv.Atoi(part[1])
		bay, wrong := strconv.Atoi(part[2])
		n, no := strconv.Atoi(w[2])
		if err := errors.Join(bad, wrong, no); err != nil {
			t.Fatal(s, err)
		}
		l = append(l, api.Line{Place: api.Place{Zone: part[0], Row: row, Bay: bay}, Lot: w[1], N: n})
	}
	return l
}

func sheetText(l []api.Line) string {
	var s []string
	for _, x := range l {
		s = append(s, fmt.Sprintf("%s-%d-%d %s %d", x.Place.Zone, x.Place.Row, x.Place.Bay, x.Lot, x.N))
	}
	return strings.Join(s, ",")
}

// told entries: as texts.
func told(l []api.Entry) string {
	var s []string
	for _, e := range l {
		s = append(s, entry.Text(e))
	}
	return strings.Join(s, ",")
}

// one task as a text: what it has, a slash between.
func one(x task.Task) string {
	return strings.Join([]string{x.Code, x.State, x.By, x.Again, sheetText(x.Sheet)}, "/")
}

// all tasks: a line of each.
func all(x *task.Tasks) string {
	var s []string
	for k := range x.Len() {
		got, ok := x.Get(k)
		if !ok {
			got.State += "?"
		}
		s = append(s, one(got))
	}
	return strings.Join(s, "\n")
}

// outcome of a call: an error's last word, with its place if it is a fault.
func outcome(err error, well string) string {
	if err == nil {
		return well
	}
	s := strings.TrimPrefix(err.Error(), "tithebarn: ")
	if f, is := err.(*api.Fault); is {
		s += " at " + strconv.Itoa(f.At)
	}
	return s
}

// call of a text: `open CODE`, `count K WHO SHEET`, `doubt K`, `refuse K`, `post K`. With an error nothing else is told, and nothing changes.
func call(t testing.TB, x *task.Tasks, b *book.Book, text string) string {
	t.Helper()
	was, bookWas := all(x), b.Copy()
	got, wrong := callOnly(t, x, b, text)
	if wrong && (all(x) != was || !book.Same(b, bookWas)) {
		t.Errorf("%s: %s, but\n%s\nis now\n%s", text, got, was, all(x))
	}
	if !wrong && !strings.HasPrefix(text, "post") && !book.Same(b, bookWas) {
		t.Errorf("%s: the book is another one", text)
	}
	return got
}

func callOnly(t testing.TB, x *task.Tasks, b *book.Book, text string) (string, bool) {
	t.Helper()
	w := append(strings.SplitN(text, " ", 4), "", "", "")
	if w[0] == "open" {
		k, err := x.Open(w[1])
		if err != nil && k != 0 {
			t.Error(text, k, err)
		}
		return outcome(err, strconv.Itoa(k)), err != nil
	}
	k, err := strconv.Atoi(w[1])
	if err != nil {
		t.Fatal(text, err)
	}
	switch w[0] {
	case "count":
		err = x.Count(k, w[2], sheet(t, w[3]))
	case "doubt":
		err = x.Doubt(k)
	case "refuse":
		err = x.Refuse(k)
	case "post":
		l, err := x.Post(k, b)
		if err != nil && l != nil {
			t.Error(text, l, err)
		}
		return outcome(err, "ok "+told(l)), err != nil
	default:
		t.Fatal(text)
	}
	return outcome(err, "ok"), err != nil
}

// tasks of calls, all of which must be well.
func tasks(t testing.TB, b *book.Book, calls ...string) *task.Tasks {
	t.Helper()
	x := task.New()
	for _, text := range calls {
		if got := call(t, x, b, text); strings.Trim(got, "0123456789") != "" && !strings.HasPrefix(got, "ok") {
			t.Fatal(text, got)
		}
	}
	return x
}

// P100: tasks, what is counted

func TestOpen(t *testing.T) {
	x, b := task.New(), book.New()
	if x.Len() != 0 {
		t.Error(x.Len())
	}
	for _, c := range []struct{ text, want string }{
		{"open rye", "0"}, {"open malt", "1"}, {"open abcdefgh", "2"}, {"open 0", "3"},
		{"open ", "name"}, {"open Rye", "name"}, {"open abcdefghi", "name"}, {"open é", "name"}, {"open a-b", "name"},
		{"open rye", "exist"}, {"open malt", "exist"}, {"open 0", "exist"}, {"open ry", "4"}, {"open ryee", "5"},
		// Of this code: counted, again, and what is over.
		{"count 0 ann a-1-1 l1 5", "ok"}, {"open rye", "exist"},
		{"doubt 0", "ok"}, {"open rye", "exist"},
		{"count 0 bob ", "ok"}, {"open rye", "exist"},
		{"count 0 cy ", "ok"}, {"open rye", "exist"},
		{"post 0", "ok "}, {"open rye", "6"}, {"open rye", "exist"},
		{"refuse 6", "ok"}, {"open rye", "7"}, {"open rye", "exist"}, {"refuse 1", "ok"}, {"open rye", "exist"}, {"open malt", "8"},
	} {
		if got := call(t, x, b, c.text); got != c.want {
			t.Errorf("%s: %s, not %s", c.text, got, c.want)
		}
	}
	want := "rye/done/bob/cy/\nmalt/refused///\nabcdefgh/open///\n0/open///\nry/open///\nryee/open///\nrye/refused///\nrye/open///\nmalt/open///"
	if got := all(x); got != want || x.Len() != 9 {
		t.Error(x.Len(), got)
	}
}

func TestOpenFull(t *testing.T) {
	for _, over := range []bool{false, true} {
		x, b := task.New(), book.New()
		for k := range api.MaxTasks {
			code := "g" + strconv.Itoa(k)
			if got := call(t, x, b, "open "+code); got != strconv.Itoa(k) {
				t.Fatal(code, got)
			}
			// Those that are over have their numbers still.
			if over {
				call(t, x, b, "refuse "+strconv.Itoa(k))
			}
		}
		want := []string{"full", "name", "exist"}
		if over {
			want[2] = "full"
		}
		for i, code := range []string{"more", "More", "g7"} {
			if got := call(t, x, b, "open "+code); got != want[i] {
				t.Error(over, code, got)
			}
		}
		if x.Len() != api.MaxTasks {
			t.Error(x.Len())
		}
	}
}

func TestCount(t *testing.T) {
	b := barn(t)
	for _, c := range []struct{ first, second, want string }{
		{"ann a-1-1 l1 9", "", "rye/counted/ann//a-1-1 l1 9"},
		{"ann ", "", "rye/counted/ann//"},
		{"0 a-1-1 l1 9,a-1-1 l2 0", "", "rye/counted/0//a-1-1 l1 9,a-1-1 l2 0"},
		// Lots of no book, or of other goods: any that are names.
		{"abcdefgh z-9-9 zz 1099511627776,c-1-1 m1 8", "", "rye/counted/abcdefgh//z-9-9 zz 1099511627776,c-1-1 m1 8"},
		// The same lines, in any order: the sheet is as it was.
		{"ann ", "bob ", "rye/counted/ann/bob/"},
		{"ann a-1-1 l1 9", "bob a-1-1 l1 9", "rye/counted/ann/bob/a-1-1 l1 9"},
		{"ann a-1-1 l1 9,a-2-2 l2 5", "bob a-2-2 l2 5,a-1-1 l1 9", "rye/counted/ann/bob/a-1-1 l1 9,a-2-2 l2 5"},
		{"ann a-1-1 l1 9,a-2-2 l2 5,b-1-1 l1 0", "bob b-1-1 l1 0,a-1-1 l1 9,a-2-2 l2 5", "rye/counted/ann/bob/a-1-1 l1 9,a-2-2 l2 5,b-1-1 l1 0"},
		// Others: their number, place, lot; more of them, or fewer.
		{"ann a-1-1 l1 9", "bob a-1-1 l1 8", "rye/again/bob//a-1-1 l1 8"},
		{"ann a-1-1 l1 9", "bob a-1-2 l1 9", "rye/again/bob//a-1-2 l1 9"},
		{"ann a-1-1 l1 9", "bob a-2-1 l1 9", "rye/again/bob//a-2-1 l1 9"},
		{"ann a-1-1 l1 9", "bob b-1-1 l1 9", "rye/again/bob//b-1-1 l1 9"},
		{"ann a-1-1 l1 9", "bob a-1-1 l2 9", "rye/again/bob//a-1-1 l2 9"},
		{"ann a-1-1 l1 9", "bob ", "rye/again/bob//"},
		{"ann ", "bob a-1-1 l1 0", "rye/again/bob//a-1-1 l1 0"},
		{"ann a-1-1 l1 9", "bob a-1-1 l1 9,a-1-2 l1 0", "rye/again/bob//a-1-1 l1 9,a-1-2 l1 0"},
		{"ann a-1-1 l1 9,a-1-2 l1 0", "bob a-1-1 l1 9", "rye/again/bob//a-1-1 l1 9"},
		{"ann a-1-1 l1 9,a-2-2 l2 5", "bob a-1-1 l1 5,a-2-2 l2 9", "rye/again/bob//a-1-1 l1 5,a-2-2 l2 9"},
		{"ann a-1-1 l1 9,a-2-2 l2 5", "bob a-2-2 l2 5,a-1-1 l1 8", "rye/again/bob//a-2-2 l2 5,a-1-1 l1 8"},
		{"ann a-1-1 l1 9,a-2-2 l2 5,b-1-1 l1 0", "bob a-1-1 l1 9,b-1-1 l1 0,a-2-2 l2 6", "rye/again/bob//a-1-1 l1 9,b-1-1 l1 0,a-2-2 l2 6"},
	} {
		x := tasks(t, b, "open malt", "open rye", "count 1 "+c.first)
		if c.second != "" {
			call(t, x, b, "doubt 1")
			if got := call(t, x, b, "count 1 "+c.second); got != "ok" {
				t.Error(c.second, got)
			}
		}
		if got := all(x); got != "malt/open///\n"+c.want {
			t.Errorf("%s, %s: %s, not %s", c.first, c.second, got, c.want)
		}
	}
}

// Against the last sheet, not an earlier one: as long as no two that come one behind the other are alike.
func TestCountOften(t *testing.T) {
	b := barn(t)
	x := tasks(t, b, "open rye", "count 0 ann a-1-1 l1 9", "doubt 0")
	for _, c := range []struct{ who, want string }{
		{"bob a-1-1 l1 8", "rye/again/bob//a-1-1 l1 8"},
		{"ann a-1-1 l1 9", "rye/again/ann//a-1-1 l1 9"},
		{"bob a-1-1 l1 8", "rye/again/bob//a-1-1 l1 8"},
		{"cy a-1-1 l1 9,a-1-2 l1 9", "rye/again/cy//a-1-1 l1 9,a-1-2 l1 9"},
		{"dee a-1-2 l1 9,a-1-1 l1 9", "rye/counted/cy/dee/a-1-1 l1 9,a-1-2 l1 9"},
	} {
		if got := call(t, x, b, "count 0 "+c.who); got != "ok" || all(x) != c.want {
			t.Error(c.who, got, all(x))
		}
	}
}

func TestCountErrors(t *testing.T) {
	b := barn(t)
	x := tasks(t, b, "open rye", "open malt", "open oats", "open hops", "open peas",
		"count 1 ann c-1-1 m1 8", "count 2 ann ", "doubt 2", "count 3 ann ", "post 3", "refuse 4")
	for _, c := range []struct{ text, want string }{
		{"count 5 ann ", "none"}, {"count -1 ann ", "none"}, {"count 9223372036854775807 ann ", "none"}, {"count -9223372036854775808 ann ", "none"},
		{"count 1 bob ", "state"}, {"count 3 bob ", "state"}, {"count 4 bob ", "state"},
		{"count 0  ", "name"}, {"count 0 Ann ", "name"}, {"count 0 abcdefghi ", "name"}, {"count 0 é ", "name"}, {"count 2 B ", "name"},
		{"count 2 ann ", "exist"}, {"count 2 ann a-1-1 l1 5", "exist"},
		// Check's errors, with their places.
		{"count 0 ann A-1-1 l1 5", "name at 0"}, {"count 0 ann a-1-1 l1 5,a-21-1 l1 5", "bound at 1"}, {"count 0 ann a-1-1 l1 5,a-1-2 L 5", "name at 1"},
		{"count 0 ann a-1-1 l1 -1", "bound at 0"}, {"count 0 ann a-1-1 l1 5,a-1-2 l1 1099511627777", "bound at 1"}, {"count 0 ann a-1-1 l1 5,a-1-2 l1 5,a-1-1 l1 5", "exist at 2"},
		{"count 2 bob a-1-1 l1 5,a-1-1 l1 5", "exist at 1"}, {"count 2 bob a-1-1 l1 -1", "bound at 0"},
		// In the order in which they are named.
		{"count 5 A a-1-1 l1 -1", "none"}, {"count 1 A a-1-1 l1 -1", "state"}, {"count 3  a-1-1 l1 -1", "state"}, {"count 1 ann a-1-1 l1 -1", "state"},
		{"count 0 A a-1-1 l1 -1", "name"}, {"count 2 A a-1-1 l1 -1", "name"}, {"count 2 ann a-1-1 l1 -1", "exist"},
	} {
		if got := call(t, x, b, c.text); got != c.want {
			t.Errorf("%s: %s, not %s", c.text, got, c.want)
		}
	}
	// Not a word of all this is kept: By is not yet there, or the one ahead.
	for _, c := range []struct{ text, want string }{{"count 0 ann ", "ok"}, {"count 2 bob ", "ok"}} {
		if got := call(t, x, b, c.text); got != c.want {
			t.Errorf("%s: %s, not %s", c.text, got, c.want)
		}
	}
	want := "rye/counted/ann//\nmalt/counted/ann//c-1-1 m1 8\noats/counted/ann/bob/\nhops/done/ann//\npeas/refused///"
	if got := all(x); got != want {
		t.Error(got)
	}
}

// P101: in doubt, refused, posted

// ways to a task of each state, of which the last one's number is 0.
func waysTo(state string) []string {
	switch state {
	case "open":
		return []string{"open rye"}
	case "counted":
		return []string{"open rye", "count 0 ann a-1-1 l1 9"}
	case "again":
		return append(waysTo("counted"), "doubt 0")
	case "other":
		return append(waysTo("again"), "count 0 bob a-1-1 l1 8")
	case "twice":
		return append(waysTo("again"), "count 0 bob a-1-1 l1 9")
	case "done":
		return append(waysTo("counted"), "post 0")
	case "done twice":
		return append(waysTo("twice"), "post 0")
	}
	// refused ..: of each of them.
	return append(waysTo(strings.TrimPrefix(state, "refused ")), "refuse 0")
}

// Each call, of each state.
func TestStates(t *testing.T) {
	for _, c := range []struct{ state, count, doubt, refuse, post string }{
		{"open", "rye/counted/cy//", "state", "rye/refused///", "state"},
		{"counted", "state", "rye/again/ann//a-1-1 l1 9", "rye/refused/ann//a-1-1 l1 9", "rye/done/ann//a-1-1 l1 9"},
		{"again", "rye/again/cy//", "state", "rye/refused/ann//a-1-1 l1 9", "state"},
		{"other", "rye/again/cy//", "state", "rye/refused/bob//a-1-1 l1 8", "state"},
		{"twice", "state", "state", "rye/refused/ann/bob/a-1-1 l1 9", "rye/done/ann/bob/a-1-1 l1 9"},
		{"done", "state", "state", "state", "state"},
		{"done twice", "state", "state", "state", "state"},
		{"refused open", "state", "state", "state", "state"},
		{"refused counted", "state", "state", "state", "state"},
		{"refused again", "state", "state", "state", "state"},
		{"refused twice", "state", "state", "state", "state"},
	} {
		for _, way := range []struct{ text, want string }{{"count 0 cy ", c.count}, {"doubt 0", c.doubt}, {"refuse 0", c.refuse}, {"post 0", c.post}} {
			b := barn(t)
			x := tasks(t, b, waysTo(c.state)...)
			got := call(t, x, b, way.text)
			if strings.HasPrefix(got, "ok") {
				got = all(x)
			}
			if got != way.want {
				t.Errorf("%s: %s: %s, not %s", c.state, way.text, got, way.want)
			}
		}
	}
}

func TestNoSuchTask(t *testing.T) {
	b := barn(t)
	for _, x := range []*task.Tasks{task.New(), {}, tasks(t, b, "open rye", "count 0 ann ", "open malt")} {
		for _, k := range []int{-1, x.Len(), x.Len() + 1, least, most} {
			for _, text := range []string{"count %d ann ", "doubt %d", "refuse %d", "post %d"} {
				if got := call(t, x, b, fmt.Sprintf(text, k)); got != "none" {
					t.Error(text, k, got)
				}
			}
			if got, ok := x.Get(k); ok || got.Sheet != nil || one(got) != "////" {
				t.Error(k, got)
			}
			if l, err := x.Post(k, nil); l != nil || err != api.ErrShape {
				t.Error(k, l, err)
			}
		}
	}
}

func TestPost(t *testing.T) {
	for _, c := range []struct {
		sheet, want string
		has         int
	}{
		{"", "", 20}, {"a-1-1 l1 10,a-2-2 l2 5", "", 20},
		{"a-1-1 l1 9", "less l1 a-1-1 1", 19}, {"a-1-1 l1 0", "less l1 a-1-1 10", -1}, {"a-1-1 l1 2", "less l1 a-1-1 8", 12}, {"a-1-1 l1 1", "less l1 a-1-1 9", -1},
		// In the sheet's order, of any goods.
		{"c-1-1 m1 7,a-2-2 l2 6,z-1-1 l1 3,a-1-1 l1 8,b-2-3 l1 4", "less m1 c-1-1 1,more l2 a-2-2 1,more l1 z-1-1 3,less l1 a-1-1 2", 22},
		// Pieces that lie elsewhere: more first, and those that are held are there all the time.
		{"z-1-1 l1 10,a-1-1 l1 0", "more l1 z-1-1 10,less l1 a-1-1 10", 20}, {"a-1-1 l1 0,z-1-1 l1 10", "less l1 a-1-1 10,more l1 z-1-1 10", -1},
	} {
		b := barn(t)
		x := tasks(t, b, "open malt", "open rye", "count 1 ann "+c.sheet)
		if c.has < 0 {
			if got := call(t, x, b, "post 1"); got != "short" {
				t.Errorf("%s: %s", c.sheet, got)
			}
			continue
		}
		slow := b.Copy()
		l, err := x.Post(1, b)
		if told(l) != c.want || err != nil || b.Has("rye") != c.has {
			t.Errorf("%s: %s, %v, %d", c.sheet, told(l), err, b.Has("rye"))
		}
		for _, e := range l {
			slow.Do(e)
		}
		if !book.Same(b, slow) || all(x) != "malt/open///\nrye/done/ann//"+c.sheet {
			t.Error(c.sheet, all(x))
		}
		if l, err := count.Diff(b, sheet(t, c.sheet)); len(l) > 0 || err != nil {
			t.Error(c.sheet, told(l), err)
		}
	}
}

// Errors of a post: no book, none such, its state, Diff's, the book's. All are bare, and with none of them anything is done.
func TestPostErrors(t *testing.T) {
	b := barn(t)
	x := tasks(t, b, "open rye", "open malt", "count 1 ann a-1-1 l1 10,a-1-1 l2 9,a-1-1 zz 0")
	for k := -1; k < 4; k++ {
		if l, err := x.Post(k, nil); l != nil || err != api.ErrShape {
			t.Error(k, l, err)
		}
	}
	for _, c := range []struct{ text, want string }{
		{"post 2", "none"}, {"post 0", "state"}, {"post 1", "none"},
		{"count 0 ann a-2-2 l2 6,a-1-1 l1 5,b-2-3 l1 0,c-1-1 m1 9", "ok"}, {"post 0", "short"}, {"doubt 0", "ok"}, {"post 0", "state"},
		// In the order of the sheet that is kept: the first error of two.
		{"count 0 bob a-2-2 l2 6,a-1-1 l1 0,a-1-2 l2 1099511627776", "ok"}, {"post 0", "state"},
		{"count 0 cy a-1-2 l2 1099511627776,a-1-1 l1 0,a-2-2 l2 6", "ok"}, {"post 0", "short"}, {"post 1", "none"},
	} {
		if got := call(t, x, b, c.text); got != c.want {
			t.Errorf("%s: %s, not %s", c.text, got, c.want)
		}
	}
	if got := all(x); got != "rye/counted/bob/cy/a-2-2 l2 6,a-1-1 l1 0,a-1-2 l2 1099511627776\nmalt/counted/ann//a-1-1 l1 10,a-1-1 l2 9,a-1-1 zz 0" {
		t.Error(got)
	}
	// What one book refuses, another one takes, and one of nothing knows no lots.
	for _, c := range []struct {
		b    *book.Book
		want string
	}{
		{book.New(), "none"}, {&book.Book{}, "none"},
		{made(t, "goods rye 6", "lot l1 rye 9 3", "lot l2 rye 5 2"), "bound"},
		{made(t, "goods rye 6", "lot l1 rye 9 3", "lot l2 rye 5 2", "in l2 a-1-2 1099511627775"), "bound"},
		{made(t, "goods rye 6", "lot l1 rye 9 3", "lot l2 rye 5 2", "in l2 a-1-2 1099511627770", "in l2 a-2-2 6"), "bound"},
		{made(t, "goods rye 6", "lot l1 rye 9 3", "lot l2 rye 5 2", "in l1 a-1-1 7", "in l2 b-1-1 1", "hold l1 1"), "short"},
	} {
		if got := call(t, x, c.b, "post 0"); got != c.want {
			t.Error(got, c.want)
		}
	}
	b = made(t, "goods rye 6", "lot l1 rye 9 3", "lot l2 rye 5 2", "in l1 a-1-1 7")
	call(t, x, b, "refuse 0")
	call(t, x, b, "open rye")
	call(t, x, b, "count 2 ann a-1-2 l2 1099511627770,a-1-1 l1 0,a-2-2 l2 6")
	if got := call(t, x, b, "post 2"); got != "ok more l2 a-1-2 1099511627770,less l1 a-1-1 7,more l2 a-2-2 6" {
		t.Error(got)
	}
}

// A stock that has no more lines: what is found ahead does not stay, either.
func TestPostFull(t *testing.T) {
	b := made(t, "goods rye 6", "lot l1 rye 9 3")
	var seen []api.Line
	for i := range api.MaxLines {
		p := api.Place{Zone: "a", Row: 1 + i/api.MaxBay, Bay: 1 + i%api.MaxBay}
		if err := b.Do(api.Entry{Kind: "in", Lot: api.Lot{ID: "l1"}, To: p, N: 5}); err != nil {
			t.Fatal(err)
		}
		seen = append(seen, api.Line{Place: p, Lot: "l1", N: 6})
	}
	seen = append(seen, api.Line{Place: api.Place{Zone: "b", Row: 1, Bay: 1}, Lot: "l1", N: 1})
	x := tasks(t, b, "open rye", "open malt")
	for k, l := range [][]api.Line{seen, seen[:api.MaxLines]} {
		if err := x.Count(k, "ann", l); err != nil {
			t.Error(err)
		}
	}
	if got := call(t, x, b, "post 0"); got != "full" || b.Has("rye") != 5*api.MaxLines {
		t.Error(got, b.Has("rye"))
	}
	if l, err := x.Post(1, b); len(l) != api.MaxLines || err != nil || b.Has("rye") != 6*api.MaxLines {
		t.Error(len(l), err, b.Has("rye"))
	}
}

// What a book is when it is posted counts, not what it was when it was counted.
func TestPostLater(t *testing.T) {
	b := barn(t)
	x := tasks(t, b, "open rye", "open malt", "count 0 ann a-1-1 l1 9,a-1-1 l2 1", "count 1 bob a-1-1 l1 8")
	e, _ := entry.Read("out l1 a-1-1 2")
	b.Do(e)
	for _, c := range []struct{ text, want string }{{"post 0", "ok more l1 a-1-1 1"}, {"post 1", "ok less l1 a-1-1 1"}, {"post 0", "state"}} {
		if got := call(t, x, b, c.text); got != c.want {
			t.Errorf("%s: %s, not %s", c.text, got, c.want)
		}
	}
	if s := b.Sums("rye"); s != (book.Sums{In: 20, Out: 2, More: 1, Less: 1}) {
		t.Error(s)
	}
}

func TestGet(t *testing.T) {
	b := barn(t)
	x := tasks(t, b, "open rye", "open malt", "count 1 ann c-1-1 m1 8,c-1-2 m1 0")
	got, ok := x.Get(1)
	want := []api.Line{{Place: api.Place{Zone: "c", Row: 1, Bay: 1}, Lot: "m1", N: 8}, {Place: api.Place{Zone: "c", Row: 1, Bay: 2}, Lot: "m1"}}
	if !ok || got.Code != "malt" || got.State != "counted" || got.By != "ann" || got.Again != "" || !slices.Equal(got.Sheet, want) {
		t.Error(got, ok)
	}
	if got, ok := x.Get(0); !ok || one(got) != "rye/open///" || len(got.Sheet) > 0 {
		t.Error(got, ok)
	}
}

// P102: another one counts again, what is done stays

// slow model of tasks: all that was told of each, from which its state is worked out anew.
type slow struct {
	code  []string
	calls [][]string // that were well
}

// is: what a task is, by all calls that were well.
func (s *slow) is(k int) (state, by, again, seen string) {
	state = "open"
	for _, c := range s.calls[k] {
		w := append(strings.SplitN(c, " ", 3), "", "")
		switch {
		case w[0] == "doubt":
			state = "again"
		case w[0] == "refuse":
			state = "refused"
		case w[0] == "post":
			state = "done"
		case state == "open":
			state, by, seen = "counted", w[1], w[2]
		case sorted(seen) == sorted(w[2]):
			state, again = "counted", w[1]
		default:
			by, seen = w[1], w[2]
		}
	}
	return state, by, again, seen
}

func sorted(text string) string {
	l := strings.Split(text, ",")
	slices.Sort(l)
	return strings.Join(l, ",")
}

// may: of a call, what is to be told.
func (s *slow) may(call string, b *book.Book, t testing.TB) string {
	w := append(strings.SplitN(call, " ", 4), "", "")
	if w[0] == "open" {
		for k, code := range s.code {
			if state, _, _, _ := s.is(k); code == w[1] && (state == "open" || state == "counted" || state == "again") {
				return "exist"
			}
		}
		if len(s.code) == api.MaxTasks {
			return "full"
		}
		return strconv.Itoa(len(s.code))
	}
	k, _ := strconv.Atoi(w[1])
	if k < 0 || k >= len(s.code) {
		return "none"
	}
	state, by, again, seen := s.is(k)
	switch {
	case w[0] == "count" && state != "open" && state != "again", w[0] == "doubt" && (state != "counted" || again != ""),
		w[0] == "refuse" && (state == "done" || state == "refused"), w[0] == "post" && state != "counted":
		return "state"
	case w[0] == "count" && state == "again" && w[2] == by:
		return "exist"
	case w[0] == "count":
		return outcome(count.Check(sheet(t, w[3])), "ok")
	case w[0] == "post":
		l, err := count.Diff(b, sheet(t, seen))
		c := b.Copy()
		for i := 0; i < len(l) && err == nil; i++ {
			err = c.Do(l[i])
		}
		return strings.Split(outcome(err, "ok "+told(l)), " at ")[0]
	}
	return "ok"
}

// told what was well.
func (s *slow) done(call string) {
	w := strings.SplitN(call, " ", 3)
	if w[0] == "open" {
		s.code, s.calls = append(s.code, w[1]), append(s.calls, nil)
		return
	}
	k, _ := strconv.Atoi(w[1])
	s.calls[k] = append(s.calls[k], strings.Join(append(w[:1:1], w[2:]...), " "))
}

func randomCall(r *rand.Rand, tasks int) string {
	// Those that are not over stand at the end, mostly.
	k := strconv.Itoa(max(r.Intn(tasks+2)-1, tasks-1-r.Intn(8)))
	switch r.Intn(10) {
	case 0, 1:
		return "open " + []string{"rye", "malt", "oats"}[r.Intn(3)]
	case 2, 3:
		return "doubt " + k
	case 4:
		return "refuse " + k
	case 5:
		return "post " + k
	}
	l := []string{"a-1-1 l1 " + []string{"8", "9", "0"}[r.Intn(3)], "a-2-2 l2 5", "z-1-1 " + []string{"l1", "zz", "l2"}[r.Intn(3)] + " 0", "b-2-3 l1 " + strconv.Itoa(r.Intn(5)-1)}[r.Intn(2) : 2+r.Intn(3)]
	r.Shuffle(len(l), func(i, k int) { l[i], l[k] = l[k], l[i] })
	return "count " + k + " " + []string{"ann", "bob", "cy"}[r.Intn(3)] + " " + strings.Join(l, ",")
}

func TestRandom(t *testing.T) {
	seen := map[string]int{}
	for seed := range int64(150) {
		r := rand.New(rand.NewSource(seed))
		x, b, s := task.New(), barn(t), &slow{}
		over := map[int]string{}
		// Now and then so long that there are as many as may be.
		for range 120 + 1000*(seed%50/49) {
			text := randomCall(r, x.Len())
			want := s.may(text, b, t)
			got, wrong := callOnly(t, x, b, text)
			if got != want {
				t.Fatalf("seed %d: %s: %s, not %s", seed, text, got, want)
			}
			if !wrong {
				s.done(text)
			}
			seen[strings.Split(text, " ")[0]+" "+strings.Split(got, " ")[0]]++
			for k := range x.Len() {
				y, _ := x.Get(k)
				state, by, again, lines := s.is(k)
				if one(y) != strings.Join([]string{s.code[k], state, by, again, lines}, "/") {
					t.Fatalf("seed %d: %s: %s", seed, text, one(y))
				}
				if y.Again != "" && y.Again == y.By {
					t.Fatalf("seed %d: %s: not another one: %s", seed, text, one(y))
				}
				if was, is := over[k]; is && one(y) != was {
					t.Fatalf("seed %d: %s: %s, which was over as %s", seed, text, one(y), was)
				}
				if y.State == "done" || y.State == "refused" {
					over[k] = one(y)
				}
			}
		}
	}
	for _, s := range []string{"open 0", "open exist", "open full", "count ok", "count exist", "count state", "count bound", "count none", "doubt ok", "doubt state", "refuse ok", "refuse state", "post ok", "post state", "post none", "post short"} {
		if seen[s] == 0 {
			t.Error("never:", s)
		}
	}
}

// P3, P4: a sheet is only read, and no further than its length; it is not kept; what is answered is new memory.
func TestAllStays(t *testing.T) {
	b := barn(t)
	x := tasks(t, b, "open rye")
	l := sheet(t, "a-1-1 l1 9,a-2-2 l2 6,a-1-1 l1 3,a-1-1 zz -1")
	was := slices.Clone(l)
	if err := x.Count(0, "ann", l[:2]); err != nil || !slices.Equal(l, was) {
		t.Fatal(err, l)
	}
	clear(l)
	want := "rye/counted/ann//a-1-1 l1 9,a-2-2 l2 6"
	got, _ := x.Get(0)
	if one(got) != want {
		t.Error(one(got))
	}
	// What Get answered, up to the end of its memory, and what is written behind it.
	got.Code, got.State = "z", "z"
	clear(got.Sheet[:cap(got.Sheet)])
	_ = append(got.Sheet[:1], api.Line{Lot: "z"})
	if all(x) != want {
		t.Error(all(x))
	}
	call(t, x, b, "doubt 0")
	copy(l, was)
	if err := x.Count(0, "bob", l[1:2]); err != nil {
		t.Error(err)
	}
	clear(l)
	call(t, x, b, "count 0 cy a-2-2 l2 6")
	if all(x) != "rye/counted/bob/cy/a-2-2 l2 6" {
		t.Error(all(x))
	}
	posted, err := x.Post(0, b)
	bookWas := b.Copy()
	if told(posted) != "more l2 a-2-2 1" || err != nil {
		t.Error(told(posted), err)
	}
	clear(posted)
	if all(x) != "rye/done/bob/cy/a-2-2 l2 6" || !book.Same(b, bookWas) {
		t.Error(all(x))
	}
	// A copy of the book that was made ahead stays as it was, and one that was made behind goes its own way.
	c := b.Copy()
	x = tasks(t, b, "open rye", "count 0 ann a-2-2 l2 1", "post 0")
	if !book.Same(c, bookWas) || book.Same(b, bookWas) || b.Has("rye") != 16 {
		t.Error(b.Has("rye"))
	}
	if e, _ := entry.Read("out l2 a-2-2 1"); b.Do(e) != nil || c.Do(e) != nil || b.Has("rye") != 15 || c.Has("rye") != 20 {
		t.Error(b.Has("rye"), c.Has("rye"))
	}
}

// P2: alike, whoever else works beside.
func TestAlwaysAlike(t *testing.T) {
	work := func() string {
		r := rand.New(rand.NewSource(7))
		x, b := task.New(), barn(t)
		var s []string
		for range 200 {
			text := randomCall(r, x.Len())
			got, _ := callOnly(t, x, b, text)
			s = append(s, got)
		}
		return strings.Join(s, ",") + all(x) + b.Stock().Text()
	}
	want := work()
	var wait sync.WaitGroup
	var got [8]string
	for i := range got {
		wait.Go(func() { got[i] = work() })
	}
	wait.Wait()
	for _, s := range got {
		if s != want {
			t.Error(s, want)
		}
	}
	// What is only read may be read by many.
	x := tasks(t, barn(t), "open rye", "count 0 ann a-1-1 l1 9")
	for i := range got {
		wait.Go(func() { got[i] = all(x) })
	}
	wait.Wait()
	for _, s := range got {
		if s != "rye/counted/ann//a-1-1 l1 9" {
			t.Error(s)
		}
	}
}

// FuzzTasks: a byte a call, with what follows it.
func FuzzTasks(f *testing.F) {
	f.Add("orye\nc0 ann a-1-1 l1 9\nd0\nc0 bob a-1-1 l1 9\np0")
	f.Add("orye\nc0 ann a-1-1 l1 9,z-1-1 zz 5\np0\nr0\norye\nc1 ann \np1\nr1")
	f.Add("o\nc\n\xff\nd-1\np99")
	f.Fuzz(func(t *testing.T, s string) {
		x, b := task.New(), barn(t)
		for _, text := range strings.Split(s, "\n")[:min(60, 1+strings.Count(s, "\n"))] {
			was, bookWas := all(x), b.Copy()
			w := append(strings.SplitN(text, " ", 3), "", "")
			n, _ := strconv.Atoi(w[0][min(1, len(w[0])):])
			var err error
			switch w[0][:min(1, len(w[0]))] {
			case "o":
				_, err = x.Open(w[0][1:])
			case "c":
				var l []api.Line
				for _, line := range strings.Split(w[2], ",") {
					v := append(strings.Split(line, " "), "", "")
					p, err := place.Read(v[0])
					if err != nil {
						p = api.Place{Zone: v[0], Row: n, Bay: len(line)}
					}
					seen, _ := strconv.Atoi(v[2])
					l = append(l, api.Line{Place: p, Lot: v[1], N: seen})
				}
				err = x.Count(n, w[1], l)
			case "d":
				err = x.Doubt(n)
			case "r":
				err = x.Refuse(n)
			case "p":
				var l []api.Entry
				if l, err = x.Post(n, b); err == nil {
					for _, e := range l {
						bookWas.Do(e)
					}
				}
			}
			if err != nil && all(x) != was || !book.Same(b, bookWas) {
				t.Errorf("%q: %v: %s, which was %s", text, err, all(x), was)
			}
			for k := range x.Len() {
				if y, ok := x.Get(k); !ok || y.Again != "" && y.Again == y.By || count.Check(y.Sheet) != nil {
					t.Error(text, one(y))
				}
			}
		}
	})
}

func ExampleTasks() {
	b := book.New()
	for _, s := range []string{"goods rye 12", "lot l1 rye 30 5", "in l1 a-1-2 5"} {
		e, _ := entry.Read(s)
		b.Do(e)
	}
	seen := []api.Line{{Place: api.Place{Zone: "a", Row: 1, Bay: 2}, Lot: "l1", N: 4}}
	x := task.New()
	k, err := x.Open("rye")
	fmt.Println(k, err, x.Count(k, "ann", seen), x.Doubt(k))
	fmt.Println(x.Count(k, "ann", seen), x.Count(k, "bob", seen))
	l, err := x.Post(k, b)
	got, _ := x.Get(k)
	fmt.Println(entry.Text(l[0]), err, got.State, b.Has("rye"))
	// Output:
	// 0 <nil> <nil> <nil>
	// tithebarn: exist <nil>
	// less l1 a-1-2 1 <nil> done 4
}
