package border

import (
	"slices"
	"testing"

	"overlay/api"
	"overlay/segment"
)

func at(x, y int) api.Point { return api.Point{X: x, Y: y, D: 1} }

func seg(x0, y0, x1, y1 int) segment.Segment { return segment.Segment{A: at(x0, y0), B: at(x1, y1)} }

func TestIsIn(t *testing.T) {
	// By operation: inside neither, inside a alone, inside b alone, inside both.
	want := [5][4]bool{
		api.And:   {false, false, false, true},
		api.Or:    {false, true, true, true},
		api.Minus: {false, true, false, false},
		api.Back:  {false, false, true, false},
		api.Xor:   {false, true, true, false},
	}
	for op, row := range want {
		for i, in := range row {
			if isIn(op, i%2 == 1, i/2 == 1) != in {
				t.Errorf("isIn(%d, %v, %v) is %v", op, i%2 == 1, i/2 == 1, !in)
			}
		}
	}
}

func TestBordersOf(t *testing.T) {
	p, q := at(0, 0), at(2, 1)
	there, back := segment.Segment{A: p, B: q}, segment.Segment{A: q, B: p}
	for i := range 16 {
		piece := api.Piece{P: p, Q: q, LeftA: i&1 > 0, RightA: i&2 > 0, LeftB: i&4 > 0, RightB: i&8 > 0}
		for op := range 5 {
			left, right := isIn(op, piece.LeftA, piece.LeftB), isIn(op, piece.RightA, piece.RightB)
			var want []segment.Segment
			switch {
			case left && !right:
				want = []segment.Segment{there}
			case right && !left:
				want = []segment.Segment{back}
			}
			if got := bordersOf(op, []api.Piece{piece}); !slices.Equal(got, want) {
				t.Errorf("bordersOf(%d, %+v) = %v, want %v", op, piece, got, want)
			}
		}
	}
	if got := bordersOf(api.Or, nil); len(got) != 0 {
		t.Errorf("without pieces there are borders: %v", got)
	}
}

// clockwise: places round (0, 0), as one sees them who turns clockwise from straight up; some are straight across from others.
func clockwise() []api.Point {
	return []api.Point{
		at(0, 3), at(1, 5), at(2, 2), {X: 5, Y: 3, D: 2}, at(7, 0), at(4, -1), at(1, -1), at(1, -9),
		at(0, -1), at(-1, -5), at(-1, -1), {X: -5, Y: -3, D: 4}, at(-2, 0), at(-8, 2), at(-3, 3), {X: -1, Y: 9, D: 3},
	}
}

func TestIsMetAhead(t *testing.T) {
	round := clockwise()
	n := len(round)
	for from := range n {
		ended := segment.Segment{A: round[from], B: at(0, 0)}
		for i := 1; i < n; i++ {
			for k := 1; k < n; k++ {
				p, q := round[(from+i)%n], round[(from+k)%n]
				if isMetAhead(p, q, ended) != (i < k) {
					t.Errorf("from %v: that %v is met ahead of %v is %v", ended.A, p, q, i >= k)
				}
			}
		}
	}
}

func TestFollowers(t *testing.T) {
	// Two boxes that touch in (2, 2), and a triangle for itself.
	borders := []segment.Segment{
		seg(0, 0, 2, 0), seg(2, 0, 2, 2), seg(2, 2, 0, 2), seg(0, 2, 0, 0),
		seg(2, 2, 4, 2), seg(4, 2, 4, 4), seg(4, 4, 2, 4), seg(2, 4, 2, 2),
		seg(9, 9, 12, 9), seg(9, 12, 9, 9), seg(12, 9, 9, 12),
	}
	want := []int{1, 2, 3, 0, 5, 6, 7, 4, 10, 8, 9}
	if got := followers(borders); !slices.Equal(got, want) {
		t.Errorf("followers(%v) = %v, want %v", borders, got, want)
	}
	// The same in another order: the first that begins at the spot is not the first that is met.
	slices.Reverse(borders)
	slices.Reverse(want)
	for i := range want {
		want[i] = len(borders) - 1 - want[i]
	}
	if got := followers(borders); !slices.Equal(got, want) {
		t.Errorf("followers(%v) = %v, want %v", borders, got, want)
	}
	if got := followers(nil); len(got) != 0 {
		t.Errorf("without borders there are followers: %v", got)
	}
}

func TestFollowersRoundASpot(t *testing.T) {
	round := clockwise()
	n := len(round)
	var borders []segment.Segment
	for i := range n / 2 {
		borders = append(borders, segment.Segment{A: at(0, 0), B: round[2*i]})
	}
	for i := range n / 2 {
		borders = append(borders, segment.Segment{A: round[2*i+1], B: at(0, 0)})
	}
	got := followers(borders)
	for i := range n / 2 {
		if want := (i + 1) % (n / 2); got[n/2+i] != want {
			t.Errorf("behind %v comes %v", borders[n/2+i], borders[got[n/2+i]])
		}
	}
}

func TestIsTurn(t *testing.T) {
	for _, c := range []struct {
		border, next segment.Segment
		want         bool
	}{
		{seg(0, 0, 2, 1), seg(2, 1, 6, 3), false}, {seg(6, 3, 2, 1), seg(2, 1, 0, 0), false}, {seg(1, 1, 1, 3), seg(1, 3, 1, 4), false},
		{seg(0, 0, 2, 1), seg(2, 1, 6, 4), true}, {seg(0, 0, 2, 1), seg(2, 1, 6, 2), true}, {seg(0, 0, 0, 2), seg(0, 2, 1, 0), true},
	} {
		if isTurn(c.border, c.next) != c.want {
			t.Errorf("that it turns from %v to %v is %v", c.border, c.next, !c.want)
		}
	}
}
