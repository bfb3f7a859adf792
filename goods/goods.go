// Package goods: goods: see ../shared/doc/01-goods.md.
package goods

import (
	"strconv"
	"strings"

	"tithebarn/api"
	"tithebarn/number"
)

const (
	caseMark   = "c"
	mostDigits = 13 // MaxQty has as many
)

// Name: is a text one?
func Name(s string) bool {
	if s == "" || len(s) > api.MaxName {
		return false
	}
	for i := range len(s) {
		if !nameByte(s[i]) {
			return false
		}
	}
	return true
}

func nameByte(c byte) bool {
	return 'a' <= c && c <= 'z' || '0' <= c && c <= '9'
}

// Check goods.
func Check(g api.Goods) error {
	if !Name(g.Code) {
		return api.ErrName
	}
	if !packWell(g.Pack) {
		return api.ErrBound
	}
	return nil
}

func packWell(pack int) bool {
	return 1 <= pack && pack <= api.MaxPack
}

// Text of pieces.
func Text(n, pack int) string {
	if n < 0 || n > api.MaxQty || !packWell(pack) {
		return ""
	}
	if pack == 1 || n < pack {
		return strconv.Itoa(n)
	}
	cases := strconv.Itoa(n/pack) + caseMark
	if n%pack == 0 {
		return cases
	}
	return cases + strconv.Itoa(n%pack)
}

// Read pieces.
func Read(s string, pack int) (int, error) {
	if !packWell(pack) {
		return 0, api.ErrBound
	}
	cases, pieces, ok := parts(s)
	if !ok {
		return 0, api.ErrText
	}
	// No overflow: both have at most thirteen digits, and a pack at most four.
	n := cases*pack + pieces
	if n > api.MaxQty {
		return 0, api.ErrBound
	}
	return n, nil
}

func parts(s string) (cases, pieces int, ok bool) {
	ahead, behind, cut := strings.Cut(s, caseMark)
	if !cut {
		pieces, ok = number.Read(s, mostDigits)
		return 0, pieces, ok
	}
	cases, ok = fromOne(ahead)
	if !ok || behind == "" {
		return cases, 0, ok
	}
	pieces, ok = fromOne(behind)
	return cases, pieces, ok
}

// fromOne reads a number beside a `c`: a 0 is written on neither side of it.
func fromOne(s string) (int, bool) {
	n, ok := number.Read(s, mostDigits)
	return n, ok && n > 0
}
