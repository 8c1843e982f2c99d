package polygon

import (
	"testing"

	"overlay/api"
	"overlay/segment"
)

func TestHasMore(t *testing.T) {
	three := make([]api.Point, 3)
	for _, c := range []struct {
		p    [][]api.Point
		many int
		want bool
	}{
		{nil, 0, false}, {make([][]api.Point, 1000), 0, false},
		{[][]api.Point{three}, 3, false}, {[][]api.Point{three}, 2, true},
		{[][]api.Point{three, nil, three}, 6, false}, {[][]api.Point{three, nil, three}, 5, true}, {[][]api.Point{nil, three, nil}, 2, true},
	} {
		if hasMore(c.p, c.many) != c.want {
			t.Errorf("that %v has more than %d points is %v", c.p, c.many, !c.want)
		}
	}
}

func TestAreGood(t *testing.T) {
	good, bad := api.Point{X: 1, Y: 1, D: 2}, api.Point{X: 129, Y: 1, D: 2}
	if !areGood(Edges([][]api.Point{{good, good}, nil, {good}})) {
		t.Error("good points are called bad")
	}
	for _, p := range [][][]api.Point{{{bad}}, {{good, bad}}, {{bad, good}}, {{good, good, good}, {good, bad}}} {
		if areGood(Edges(p)) {
			t.Errorf("%v is called good", p)
		}
	}
}

func TestIsOver(t *testing.T) {
	slanted := segment.Segment{A: at(4, 4), B: at(0, 2)}
	upright := segment.Segment{A: at(3, 1), B: at(3, 5)}
	for _, c := range []struct {
		edge segment.Segment
		q    api.Point
		want bool
	}{
		{slanted, at(2, 2), true}, {slanted, at(2, 4), false}, {slanted, at(0, 1), false}, {slanted, at(4, 3), true}, {slanted, at(5, 0), false}, {slanted, at(-1, 0), false},
		// The ray leans to the left: it passes to the left of what is straight above.
		{upright, at(3, 0), false}, {upright, at(2, 0), false}, {upright, at(4, 0), false}, {upright, at(2, 3), false}, {upright, at(4, 3), false}, {upright, at(3, 6), false},
	} {
		if isOver(c.edge, c.q) != c.want {
			t.Errorf("that %v is over %v is %v", c.edge, c.q, !c.want)
		}
	}
}
