// Package everywhere tests what holds for all packages: the bounds and errors that they share.
package everywhere

import (
	"errors"
	"testing"

	"tithebarn/api"
	"tithebarn/plain"
)

func TestBounds(t *testing.T) {
	for _, c := range []struct {
		name      string
		got, want int
	}{
		{"MaxGoods", api.MaxGoods, 30},
		{"MaxPack", api.MaxPack, 1000},
		{"MaxName", api.MaxName, 8},
		{"MaxRow", api.MaxRow, 20},
		{"MaxBay", api.MaxBay, 40},
		{"MaxQty", api.MaxQty, 1099511627776},
		{"MaxCost", api.MaxCost, 1048576},
		{"MaxDay", api.MaxDay, 100000},
		{"MaxLots", api.MaxLots, 60},
		{"MaxLines", api.MaxLines, 200},
		{"MaxText", api.MaxText, 20000},
		{"MaxTasks", api.MaxTasks, 30},
		{"MaxBytes", api.MaxBytes, 1048576},
		{"MaxScript", api.MaxScript, 80},
		{"Workers", api.Workers, 16},
	} {
		if c.got != c.want {
			t.Errorf("%s is %d, not %d", c.name, c.got, c.want)
		}
	}
}

func TestErrors(t *testing.T) {
	for i, c := range []struct {
		err  error
		text string
	}{
		{api.ErrText, "text"}, {api.ErrBound, "bound"}, {api.ErrShape, "shape"}, {api.ErrKind, "kind"},
		{api.ErrName, "name"}, {api.ErrNone, "none"}, {api.ErrExist, "exist"}, {api.ErrFull, "full"},
		{api.ErrShort, "short"}, {api.ErrOrder, "order"}, {api.ErrState, "state"}, {api.ErrOff, "off"},
	} {
		if c.err.Error() != "tithebarn: "+c.text {
			t.Errorf("%s: %s", c.text, c.err)
		}
		if code, at := plain.Code(c.err); code != i+1 || at != -1 {
			t.Errorf("%s: %d, %d", c.text, code, at)
		}
		fault := &api.Fault{At: 7, Err: c.err}
		if code, at := plain.Code(fault); code != i+1 || at != 7 || fault.Error() != c.err.Error() {
			t.Errorf("%s with its place: %d, %d, %s", c.text, code, at, fault)
		}
	}
	if code, at := plain.Code(nil); code != 0 || at != -1 {
		t.Error(code, at)
	}
	if code, at := plain.Code(errors.New("tithebarn: text")); code != -1 || at != -1 {
		t.Error(code, at)
	}
}
