package console

import (
	"errors"
	"math"
	"testing"

	"foliowright/api"
)

// TestBoxText: through Run no box has a number that is none, since paint tells ErrBound ahead of that.
func TestBoxText(t *testing.T) { // N1
	const most = api.MaxFix
	for _, c := range []struct {
		b    api.Box
		want string
	}{
		{api.Box{}, "[0 0 0 0]"},
		{api.Box{X0: 1, Y0: 20, X1: 300, Y1: 4000}, "[0.001 0.02 0.3 4]"},
		{api.Box{X0: -1500, Y0: -1000, X1: 12345, Y1: -10}, "[-1.5 -1 12.345 -0.01]"},
		{api.Box{X0: -most, Y0: -most, X1: most, Y1: most}, "[-1000000 -1000000 1000000 1000000]"},
		{api.Box{X0: -most - 1, Y0: 1000, X1: 2000, Y1: 3000}, "[ 1 2 3]"},
		{api.Box{X0: 1000, Y0: most + 1, X1: 2000, Y1: 3000}, "[1  2 3]"},
		{api.Box{X0: 1000, Y0: 2000, X1: most + 1, Y1: 3000}, "[1 2  3]"},
		{api.Box{X0: 1000, Y0: 2000, X1: 3000, Y1: most + 1}, "[1 2 3 ]"},
		{api.Box{X0: math.MinInt, Y0: math.MinInt, X1: math.MaxInt, Y1: math.MaxInt}, "[   ]"},
	} {
		if got := boxText(c.b); got != c.want {
			t.Errorf("boxText(%v): %q, want %q", c.b, got, c.want)
		}
	}
}

func TestHitsText(t *testing.T) { // N1
	b := api.Box{X0: 1000, Y0: 2000, X1: 3000, Y1: 4000}
	for _, c := range []struct {
		hits []api.Hit
		want string
	}{
		{nil, "-"},
		{[]api.Hit{}, "-"},
		{[]api.Hit{{From: 0, To: 1}}, "0-1"},
		{[]api.Hit{{From: 7, To: 12, Boxes: []api.Box{b}}}, "7-12 [1 2 3 4]"},
		{[]api.Hit{{From: 0, To: 3, Boxes: []api.Box{b, {}}}}, "0-3 [1 2 3 4] [0 0 0 0]"},
		{[]api.Hit{{From: 0, To: 1, Boxes: []api.Box{b}}, {From: 1, To: 2}, {From: 3, To: 4, Boxes: []api.Box{{}}}}, "0-1 [1 2 3 4]; 1-2; 3-4 [0 0 0 0]"},
	} {
		if got := hitsText(c.hits); got != c.want {
			t.Errorf("hitsText(%v): %q, want %q", c.hits, got, c.want)
		}
	}
}

func TestWrong(t *testing.T) { // N2
	for err, want := range map[error]string{
		api.ErrBound: "error 1", api.ErrMany: "error 2", api.ErrShape: "error 3", api.ErrText: "error 4", api.ErrEnd: "error 5", api.ErrNone: "error 6",
		api.ErrCycle: "error 7", api.ErrKind: "error 8", api.ErrFilter: "error 9", api.ErrStack: "error 10", api.ErrEmpty: "error 11",
		errors.New("none of the layers'"): "error 4",
	} {
		if got := wrong(err); got != want {
			t.Errorf("wrong(%v): %q, want %q", err, got, want)
		}
	}
}
