package cut

import (
	"slices"
	"testing"

	"overlay/api"
	"overlay/polygon"
	"overlay/segment"
)

func at(x, y int) api.Point { return api.Point{X: x, Y: y, D: 1} }

func seg(x0, y0, x1, y1 int) segment.Segment { return segment.Segment{A: at(x0, y0), B: at(x1, y1)} }

func TestInsert(t *testing.T) {
	a, b, c, d := at(-1, 5), api.Point{X: 1, Y: 0, D: 2}, api.Point{X: 1, Y: 1, D: 2}, at(1, -9)
	want := []api.Point{a, b, c, d}
	for i := range 4 * 4 * 4 * 4 {
		var list []api.Point
		for _, k := range []int{i % 4, i / 4 % 4, i / 16 % 4, i / 64, 0, 1, 2, 3} {
			list = insert(list, want[k])
		}
		if !slices.Equal(list, want) {
			t.Fatalf("inserted in order %d: %v", i, list)
		}
	}
}

func TestSpotsOf(t *testing.T) {
	for _, c := range []struct {
		edges []segment.Segment
		want  []api.Point
	}{
		{nil, nil},
		{[]segment.Segment{seg(3, 1, 0, 0)}, []api.Point{at(0, 0), at(3, 1)}},
		{[]segment.Segment{seg(3, 1, 0, 0), seg(0, 1, 3, 0)}, []api.Point{at(0, 0), at(0, 1), {X: 3, Y: 1, D: 2}, at(3, 0), at(3, 1)}},
		{[]segment.Segment{seg(0, 0, 4, 0), seg(6, 0, 2, 0)}, []api.Point{at(0, 0), at(2, 0), at(4, 0), at(6, 0)}},
		{[]segment.Segment{seg(0, 0, 2, 0), seg(0, 1, 2, 1)}, []api.Point{at(0, 0), at(0, 1), at(2, 0), at(2, 1)}},
	} {
		if got := spotsOf(c.edges); !slices.Equal(got, c.want) {
			t.Errorf("spotsOf(%v) = %v, want %v", c.edges, got, c.want)
		}
	}
}

func TestNeighbours(t *testing.T) {
	// Through (2, 2) go two edges; (4, 4) is behind it on both of the two that lie along each other.
	edges := []segment.Segment{seg(6, 6, 0, 0), seg(2, 2, 4, 4), seg(0, 4, 4, 0), seg(4, 0, 4, 4)}
	spots := spotsOf(edges)
	for _, c := range []struct {
		p    api.Point
		want []api.Point
	}{
		{at(0, 0), []api.Point{at(2, 2)}}, {at(0, 4), []api.Point{at(2, 2)}}, {at(2, 2), []api.Point{at(4, 0), at(4, 4)}},
		{at(4, 0), []api.Point{at(4, 4)}}, {at(4, 4), []api.Point{at(6, 6)}}, {at(6, 6), nil},
	} {
		i := slices.Index(spots, c.p)
		if got := neighbours(c.p, spots[i+1:], edges); !slices.Equal(got, c.want) {
			t.Errorf("behind %v: %v, want %v", c.p, got, c.want)
		}
	}
}

func TestSides(t *testing.T) {
	box := polygon.Edges([][]api.Point{{at(0, 0), at(4, 0), at(4, 4), at(0, 4)}})
	for _, c := range []struct {
		name        string
		p, q        api.Point
		left, right bool
	}{
		{"the left edge", at(0, 0), at(0, 4), false, true},
		{"the right edge", at(4, 0), at(4, 4), true, false},
		{"the lower edge", at(0, 0), at(4, 0), true, false},
		{"the upper edge", at(0, 4), at(4, 4), false, true},
		{"a part of an edge", at(1, 4), at(2, 4), false, true},
		{"within", at(1, 1), at(2, 1), true, true},
		{"from a corner inward", at(0, 0), at(1, 3), true, true},
		{"from a corner outward", at(0, 4), at(1, 5), false, false},
		{"from a corner along an edge's line", at(4, 4), at(5, 4), false, false},
		{"from an edge inward", at(2, 0), at(3, 1), true, true},
		{"from an edge downward", at(2, 0), at(3, -1), false, false},
		{"upright, from an edge upward", at(2, 4), at(2, 5), false, false},
		{"upright, to an edge from below", at(2, -3), at(2, 0), false, false},
		{"upright, within", at(2, 0), at(2, 4), true, true},
		{"straight below a corner", at(0, -2), at(1, -2), false, false},
		{"straight above a corner", at(4, 6), at(5, 6), false, false},
	} {
		if left, right := sides(c.p, c.q, box); left != c.left || right != c.right {
			t.Errorf("%s: sides(%v, %v) = %v, %v", c.name, c.p, c.q, left, right)
		}
	}
}
