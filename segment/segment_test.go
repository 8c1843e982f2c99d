package segment

import (
	"testing"

	"overlay/api"
)

func at(x, y int) api.Point { return api.Point{X: x, Y: y, D: 1} }

func seg(x0, y0, x1, y1 int) Segment { return Segment{A: at(x0, y0), B: at(x1, y1)} }

func TestIsEmpty(t *testing.T) {
	if !seg(3, -4, 3, -4).IsEmpty() {
		t.Error("a segment of one place is not empty")
	}
	if seg(3, -4, 3, 4).IsEmpty() || seg(3, 4, -3, 4).IsEmpty() {
		t.Error("a segment of two ends is empty")
	}
}

func TestMeet(t *testing.T) {
	touch := func(x, y, d int) api.Meeting {
		return api.Meeting{Kind: api.Touch, P: api.Point{X: x, Y: y, D: d}}
	}
	for _, c := range []struct {
		name string
		s, t Segment
		want api.Meeting
	}{
		{"cross", seg(0, 0, 1, 3), seg(0, 1, 1, 0), touch(1, 3, 4)},
		{"cross, clockwise", seg(0, 1, 1, 0), seg(0, 0, 1, 3), touch(1, 3, 4)},
		{"end on the middle", seg(-4, -4, 4, 4), seg(1, 1, 0, 9), touch(1, 1, 1)},
		{"lines meet behind the end", seg(0, 0, 4, 0), seg(5, 1, 5, -1), api.Meeting{}},
		{"lines meet ahead of the beginning", seg(0, 0, 4, 0), seg(-1, 1, -1, -1), api.Meeting{}},
		{"parallel", seg(0, 0, 4, 2), seg(0, 1, 4, 3), api.Meeting{}},
		{"one line, apart", seg(0, 0, 2, 2), seg(3, 3, 5, 5), api.Meeting{}},
		{"one line, end to end", seg(0, 0, 2, 2), seg(5, 5, 2, 2), touch(2, 2, 1)},
		{"one line, along", seg(0, 0, 3, 3), seg(5, 5, 2, 2), api.Meeting{Kind: api.Along, P: at(2, 2), Q: at(3, 3)}},
		{"the greatest divisor", seg(-64, -64, 64, 64), seg(-64, 64, 64, -64), touch(0, 0, 1)},
		{"a great divisor that stays", seg(-64, -64, 64, 63), seg(64, -64, -63, 64), touch(16320, -64, 32513)},
	} {
		if got := Meet(c.s, c.t); got != c.want {
			t.Errorf("%s: Meet(%v, %v) = %+v, want %+v", c.name, c.s, c.t, got, c.want)
		}
	}
}
