package goods_test

import (
	"fmt"
	"strings"
	"testing"

	"tithebarn/api"
	"tithebarn/goods"
)

// Names

func TestNameHasLettersAndDigitsAlone(t *testing.T) {
	for c := range 256 {
		want := c >= 'a' && c <= 'z' || c >= '0' && c <= '9'
		one := string([]byte{byte(c)})
		for _, s := range []string{one, "a" + one, one + "a", "rye" + one + "123"} {
			if goods.Name(s) != want {
				t.Errorf("Name(%q) is not %v", s, want)
			}
		}
	}
	for _, s := range []string{"ä", "ß", "٣", "é", "a\u0301"} {
		if goods.Name(s) {
			t.Errorf("Name(%q)", s)
		}
	}
}

func TestNameLength(t *testing.T) {
	for n := range 2 * api.MaxName {
		want := n >= 1 && n <= api.MaxName
		if s := strings.Repeat("z", n); goods.Name(s) != want {
			t.Errorf("Name(%q) is not %v", s, want)
		}
	}
	if goods.Name(strings.Repeat("a", 1<<20)) {
		t.Error("a long one")
	}
}

// Goods

func TestCheck(t *testing.T) {
	for _, c := range []struct {
		code string
		pack int
		want error
	}{
		{"rye", 1, nil},
		{"rye", 12, nil},
		{"rye12345", api.MaxPack, nil},
		{"", 1, api.ErrName},
		{"Rye", 1, api.ErrName},
		{"rye123456", 1, api.ErrName},
		{"rye", 0, api.ErrBound},
		{"rye", -1, api.ErrBound},
		{"rye", api.MaxPack + 1, api.ErrBound},
		{"rye", -1 << 63, api.ErrBound},
		{"rye", 1<<63 - 1, api.ErrBound},
		{"", 0, api.ErrName},
		{"Rye", api.MaxPack + 1, api.ErrName},
	} {
		if err := goods.Check(api.Goods{Code: c.code, Pack: c.pack}); err != c.want {
			t.Errorf("Check(%q, %d): %v, not %v", c.code, c.pack, err, c.want)
		}
	}
}

// Pieces as text

func TestText(t *testing.T) {
	for _, c := range []struct {
		n, pack int
		want    string
	}{
		{0, 1, "0"}, {0, 12, "0"}, {0, api.MaxPack, "0"},
		{1, 1, "1"}, {1, 2, "1"}, {2, 2, "1c"}, {3, 2, "1c1"},
		{11, 12, "11"}, {12, 12, "1c"}, {13, 12, "1c1"}, {24, 12, "2c"}, {38, 12, "3c2"},
		{38, 1, "38"}, {38, 38, "1c"}, {38, 39, "38"}, {120, 12, "10c"}, {130, 12, "10c10"},
		{999, api.MaxPack, "999"}, {1000, api.MaxPack, "1c"}, {1001, api.MaxPack, "1c1"},
		{api.MaxQty, 1, "1099511627776"}, {api.MaxQty, 2, "549755813888c"}, {api.MaxQty, api.MaxPack, "1099511627c776"},
	} {
		if s := goods.Text(c.n, c.pack); s != c.want {
			t.Errorf("Text(%d, %d) = %q, not %q", c.n, c.pack, s, c.want)
		}
	}
}

func TestTextOutOfBounds(t *testing.T) {
	for _, c := range [][2]int{
		{-1, 12}, {-12, 12}, {-1 << 63, 1}, {api.MaxQty + 1, 12}, {1<<63 - 1, 12},
		{5, 0}, {5, -1}, {5, api.MaxPack + 1}, {0, 0}, {5, -1 << 63}, {5, 1<<63 - 1}, {-1 << 63, -1}, {-1, 0},
	} {
		if s := goods.Text(c[0], c[1]); s != "" {
			t.Errorf("Text(%d, %d) = %q", c[0], c[1], s)
		}
	}
}

// Pieces that are read

func TestRead(t *testing.T) {
	for _, c := range []struct {
		s    string
		pack int
		want int
	}{
		{"0", 1, 0}, {"0", 12, 0}, {"14", 12, 14}, {"14", 1, 14}, {"10", 10, 10},
		{"3c", 12, 36}, {"3c2", 12, 38}, {"3c", 1, 3}, {"3c2", 1, 5}, {"10c10", 12, 130},
		{"3c12", 12, 48}, {"3c99", 12, 135}, {"1c1000", api.MaxPack, 2000},
		{"1099511627776", 1, api.MaxQty}, {"1099511627776", api.MaxPack, api.MaxQty},
		{"1099511627776c", 1, api.MaxQty}, {"549755813888c", 2, api.MaxQty},
		{"1c1099511627775", 1, api.MaxQty}, {"1099511627c776", api.MaxPack, api.MaxQty},
	} {
		if n, err := goods.Read(c.s, c.pack); n != c.want || err != nil {
			t.Errorf("Read(%q, %d) = %d, %v, not %d", c.s, c.pack, n, err, c.want)
		}
	}
}

func TestReadNoText(t *testing.T) {
	for _, s := range []string{
		"", "c", "cc", "c2", "0c", "0c2", "00", "01", "01c", "01c2", "1c0", "1c00", "1c02", "0c0",
		"-1", "+1", "-0", "1c-1", "1c+1", "-1c", "-1c2", " 1", "1 ", "1 c", "1c 2", "1c2 ", "1c2\n", "\t1",
		"1c2c3", "1cc2", "1c2c", "1C2", "1d2", "x", "1x", "1.5", "1e3", "1_000", "0x1", "1,2",
		"٣", "１", "1ç2", "1c\x00", "\xff", "\xff\xfe",
		"12345678901234", "12345678901234c", "1c12345678901234", "10000000000000", strings.Repeat("9", 1<<16), strings.Repeat("c", 1<<16),
	} {
		for _, pack := range []int{1, 12, api.MaxPack} {
			if n, err := goods.Read(s, pack); n != 0 || err != api.ErrText {
				t.Errorf("Read(%.20q, %d) = %d, %v", s, pack, n, err)
			}
		}
	}
}

func TestReadTooMany(t *testing.T) {
	for _, c := range []struct {
		s    string
		pack int
	}{
		{"1099511627777", 1}, {"1099511627777", 12}, {"9999999999999", 1},
		{"1099511627777c", 1}, {"1099511627776c", 2}, {"1099511627776c1", 1}, {"1c1099511627776", 1},
		{"549755813888c1", 2}, {"1099511627c777", api.MaxPack}, {"1099511628c", api.MaxPack},
		{"9999999999999c", api.MaxPack}, {"9999999999999c9999999999999", api.MaxPack}, {"9999999999999c9999999999999", 1},
	} {
		if n, err := goods.Read(c.s, c.pack); n != 0 || err != api.ErrBound {
			t.Errorf("Read(%q, %d) = %d, %v", c.s, c.pack, n, err)
		}
	}
}

func TestReadTellsThePackFirst(t *testing.T) {
	for _, pack := range []int{0, -1, api.MaxPack + 1, -1 << 63, 1<<63 - 1} {
		for _, s := range []string{"", "x", "3c2", "14", "9999999999999c"} {
			if n, err := goods.Read(s, pack); n != 0 || err != api.ErrBound {
				t.Errorf("Read(%q, %d) = %d, %v", s, pack, n, err)
			}
		}
	}
}

// What is written is read

func checkReadAsWritten(t *testing.T, n, pack int) {
	t.Helper()
	s := goods.Text(n, pack)
	if got, err := goods.Read(s, pack); s == "" || got != n || err != nil {
		t.Errorf("%d of %d: %q is read as %d, %v", n, pack, s, got, err)
	}
}

func TestReadAsWritten(t *testing.T) {
	for pack := 1; pack <= api.MaxPack; pack++ {
		for n := range 50 {
			checkReadAsWritten(t, n, pack)
			checkReadAsWritten(t, api.MaxQty-n, pack)
		}
		for cases := 1; cases <= api.MaxQty/pack; cases *= 7 {
			for _, n := range []int{cases*pack - 1, cases * pack, cases*pack + 1} {
				checkReadAsWritten(t, min(n, api.MaxQty), pack)
			}
		}
	}
}

func FuzzReadAgain(f *testing.F) {
	for _, s := range []string{"", "0", "14", "3c", "3c2", "3c99", "c", "01", "9999999999999c9999999999999"} {
		f.Add(s, 12)
	}
	f.Fuzz(func(t *testing.T, s string, pack int) {
		n, err := goods.Read(s, pack)
		switch err {
		case nil:
			checkReadAsWritten(t, n, pack)
		case api.ErrText, api.ErrBound:
			if n != 0 {
				t.Errorf("Read(%q, %d) = %d beside %v", s, pack, n, err)
			}
		default:
			t.Errorf("Read(%q, %d): %v", s, pack, err)
		}
	})
}

func ExampleText() {
	fmt.Println(goods.Text(38, 12))
	// Output: 3c2
}

func ExampleRead() {
	n, err := goods.Read("3c2", 12)
	fmt.Println(n, err)
	// Output: 38 <nil>
}
