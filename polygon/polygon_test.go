package polygon

import (
	"slices"
	"testing"

	"overlay/api"
	"overlay/segment"
)

func at(x, y int) api.Point { return api.Point{X: x, Y: y, D: 1} }

func TestEdges(t *testing.T) {
	a, b, c, d := at(0, 0), at(4, 0), at(0, 4), at(9, 9)
	p := [][]api.Point{{a, b, c}, {}, {d}, {c, a}}
	want := []segment.Segment{{A: a, B: b}, {A: b, B: c}, {A: c, B: a}, {A: d, B: d}, {A: c, B: a}, {A: a, B: c}}
	if got := Edges(p); !slices.Equal(got, want) {
		t.Errorf("Edges(%v) = %v, want %v", p, got, want)
	}
	if got := Edges(nil); len(got) != 0 {
		t.Errorf("Edges(nil) = %v", got)
	}
}

func TestBadRing(t *testing.T) {
	of := func(lengths ...int) [][]api.Point {
		var p [][]api.Point
		for _, n := range lengths {
			p = append(p, make([]api.Point, n))
		}
		return p
	}
	for _, c := range []struct {
		p    [][]api.Point
		want int
	}{
		{of(), none}, {of(3), none}, {of(12), none}, {of(3, 3, 3, 3), none}, {of(9, 3), none},
		{of(2), 0}, {of(0), 0}, {of(13), 0}, {of(9, 4), 1}, {of(3, 3, 3, 4), 3}, {of(3, 13), 1}, {of(12, 2), 1}, {of(12, 0, 13), 1},
	} {
		if got := badRing(c.p); got != c.want {
			t.Errorf("badRing(%v) = %d, want %d", c.p, got, c.want)
		}
	}
}

func TestFirstEdges(t *testing.T) {
	a, b, c, d := at(0, 0), at(4, 0), at(8, 0), at(0, 65)
	edges := []segment.Segment{{A: a, B: b}, {A: b, B: c}, {A: c, B: a}, {A: a, B: a}, {A: d, B: d}, {A: d, B: d}}
	if got := offGrid(edges); got != 4 {
		t.Errorf("offGrid = %d, want 4", got)
	}
	if got := emptyEdge(edges); got != 3 {
		t.Errorf("emptyEdge = %d, want 3", got)
	}
	if got := sharedEdge(edges[:3]); got != 2 {
		t.Errorf("sharedEdge = %d, want 2", got)
	}
	few := edges[:2]
	if offGrid(few) != none || emptyEdge(few) != none || sharedEdge(few) != none {
		t.Errorf("something stands against %v", few)
	}
}
