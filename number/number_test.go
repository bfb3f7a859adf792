package number

import "testing"

func TestReadWell(t *testing.T) {
	for _, c := range []struct {
		s    string
		most int
		want int
	}{
		{"0", 1, 0},
		{"7", 1, 7},
		{"10", 2, 10},
		{"9999", 4, 9999},
		{"1099511627776", 13, 1 << 40},
		{"9999999999999", 13, 9999999999999},
		{"999999999999999999", 18, 999999999999999999},
	} {
		if n, ok := Read(c.s, c.most); n != c.want || !ok {
			t.Errorf("Read(%q, %d) = %d, %v", c.s, c.most, n, ok)
		}
	}
}

func TestReadNotWell(t *testing.T) {
	for _, c := range []struct {
		s    string
		most int
	}{
		{"", 13}, {"00", 13}, {"01", 13}, {"-1", 13}, {"-0", 13}, {"+1", 13},
		{" 1", 13}, {"1 ", 13}, {"1\n", 13}, {"1_0", 13}, {"1.0", 13}, {"1e3", 13},
		{"0x1", 13}, {"x", 13}, {"1/", 13}, {"1:", 13}, {"\x00", 13}, {"\xff", 13},
		{"٣", 13}, {"１", 13}, {"10000", 4}, {"12345678901234", 13}, {"1", 0}, {"1", -1},
	} {
		if n, ok := Read(c.s, c.most); n != 0 || ok {
			t.Errorf("Read(%q, %d) = %d, %v", c.s, c.most, n, ok)
		}
	}
}
