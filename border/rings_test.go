package border

import (
	"slices"
	"testing"

	"overlay/api"
)

func TestFromLeast(t *testing.T) {
	a, b, c, d := at(-1, 5), at(0, 0), at(0, 1), at(3, -9)
	for _, want := range [][]api.Point{
		{a, b, c}, {a, c, b}, {a, d, c, b},
		// The least place comes more than once.
		{a, b, d, a, c, d}, {a, b, c, a, b, d}, {a, b, c, a, c, a, d},
	} {
		for i := range want {
			ring := slices.Concat(want[i:], want[:i])
			before := slices.Clone(ring)
			if got := fromLeast(ring); !slices.Equal(got, want) {
				t.Errorf("fromLeast(%v) = %v, want %v", ring, got, want)
			}
			if !slices.Equal(ring, before) {
				t.Errorf("fromLeast(%v) wrote into it: %v", before, ring)
			}
		}
	}
}

func TestInsert(t *testing.T) {
	a, b, c := at(0, 0), at(0, 1), at(3, -9)
	want := [][]api.Point{{a, b}, {a, b, a}, {a, c, b}, {b, a}}
	for i := range 24 {
		left := slices.Clone(want)
		var rings [][]api.Point
		for n, k := 4, i; n > 0; n, k = n-1, k/n {
			rings = insert(rings, left[k%n])
			left = slices.Delete(left, k%n, k%n+1)
		}
		if !slices.EqualFunc(rings, want, slices.Equal[[]api.Point]) {
			t.Errorf("inserted in order %d: %v", i, rings)
		}
	}
}

func TestRings(t *testing.T) {
	// The box 0 0 4 4, its lower edge cut at (1, 0), and a triangle of b within it.
	pieces := []api.Piece{
		{P: at(0, 0), Q: at(0, 4), RightA: true}, {P: at(0, 0), Q: at(1, 0), LeftA: true}, {P: at(0, 4), Q: at(4, 4), RightA: true},
		{P: at(1, 0), Q: at(4, 0), LeftA: true}, {P: at(4, 0), Q: at(4, 4), LeftA: true},
		{P: at(2, 1), Q: at(3, 1), RightA: true, LeftA: true, LeftB: true}, {P: at(2, 1), Q: at(3, 2), RightA: true, LeftA: true, RightB: true}, {P: at(3, 1), Q: at(3, 2), RightA: true, LeftA: true, LeftB: true},
	}
	outer := []api.Point{at(0, 0), at(4, 0), at(4, 4), at(0, 4)}
	inner := []api.Point{at(2, 1), at(3, 1), at(3, 2)}
	hole := []api.Point{at(2, 1), at(3, 2), at(3, 1)}
	for op, want := range [5][][]api.Point{api.And: {inner}, api.Or: {outer}, api.Minus: {outer, hole}, api.Back: nil, api.Xor: {outer, hole}} {
		if got := Rings(op, pieces); !slices.EqualFunc(got, want, slices.Equal[[]api.Point]) {
			t.Errorf("Rings(%d, ..) = %v, want %v", op, got, want)
		}
	}
}
