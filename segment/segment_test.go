package segment

import (
	"testing"

	"overlay/api"
)

func at(x, y int) api.Point { return api.Point{X: x, Y: y, D: 1} }

func seg(x0, y0, x1, y1 int) Segment { return Segment{A: at(x0, y0), B: at(x1, y1)} }

func TestIsEmpty(t *testing.T) {
	if !seg(3, -4, 3, -4).IsEmpty() {
		t.Error("a segment of one place is not empty")
	}
	if seg(3, -4, 3, 4).IsEmpty() || seg(3, 4, -3, 4).IsEmpty() {
		t.Error("a segment of two ends is empty")
	}
}

func TestForward(t *testing.T) {
	for _, s := range []Segment{seg(1, 5, 2, 0), seg(1, -3, 1, 4), seg(-2, 0, 3, 0), {A: api.Point{X: 1, Y: 9, D: 3}, B: api.Point{X: 1, Y: 0, D: 2}}} {
		back := Segment{A: s.B, B: s.A}
		if s.Forward() != s || back.Forward() != s {
			t.Errorf("forward, %v is %v, and %v is %v", s, s.Forward(), back, back.Forward())
		}
	}
}

func TestSpans(t *testing.T) {
	half := func(x, y int) api.Point { return api.Point{X: x, Y: y, D: 2} }
	slanted, upright := seg(4, 0, 0, 2), seg(1, 3, 1, -3)
	for _, c := range []struct {
		s    Segment
		p    api.Point
		want bool
	}{
		{slanted, at(0, 2), true}, {slanted, at(0, 1), false}, {slanted, at(0, 3), true}, {slanted, at(-1, 9), false},
		{slanted, half(7, 99), true}, {slanted, half(7, -99), true}, {slanted, half(9, 0), false},
		{slanted, at(4, 0), false}, {slanted, at(4, -1), true}, {slanted, at(4, 1), false},
		{upright, at(1, -3), true}, {upright, at(1, 2), true}, {upright, half(2, 5), true}, {upright, at(1, 3), false}, {upright, at(1, -4), false}, {upright, at(0, 0), false}, {upright, at(2, 0), false},
		{seg(5, 5, 5, 5), at(5, 5), false},
	} {
		if c.s.Spans(c.p) != c.want {
			t.Errorf("that %v spans %v is %v", c.s, c.p, !c.want)
		}
	}
}

func TestSide(t *testing.T) {
	for _, s := range []Segment{seg(0, 2, 4, 0), seg(4, 0, 0, 2)} {
		if n := s.Side(at(2, 2)); n <= 0 {
			t.Errorf("%v.Side of a place to the left = %d", s, n)
		}
		if n := s.Side(at(2, 0)); n >= 0 {
			t.Errorf("%v.Side of a place to the right = %d", s, n)
		}
		if n := s.Side(api.Point{X: 10, Y: -1, D: 2}); n != 0 {
			t.Errorf("%v.Side of a place straight ahead = %d", s, n)
		}
	}
}

func TestHas(t *testing.T) {
	third := func(x, y int) api.Point { return api.Point{X: x, Y: y, D: 3} }
	slanted, upright := seg(6, 1, 0, 4), seg(1, 3, 1, -3)
	for _, c := range []struct {
		s    Segment
		p    api.Point
		want bool
	}{
		{slanted, at(0, 4), true}, {slanted, at(6, 1), true}, {slanted, third(18, 3), true}, {slanted, at(2, 3), true}, {slanted, third(2, 11), true},
		{slanted, third(2, 10), false}, {slanted, at(-2, 5), false}, {slanted, at(8, 0), false}, {slanted, at(6, 0), false}, {slanted, at(2, 2), false},
		{upright, at(1, 0), true}, {upright, third(3, 8), true}, {upright, at(1, -3), true}, {upright, third(3, 10), false}, {upright, at(1, -4), false}, {upright, third(2, 0), false},
		{Segment{A: at(1, 2), B: third(3, 6)}, at(1, 2), true}, {Segment{A: at(1, 2), B: third(3, 6)}, third(3, 6), true}, {Segment{A: at(1, 2), B: third(3, 6)}, third(3, 7), false}, {Segment{A: at(1, 2), B: third(3, 6)}, at(0, 2), false},
	} {
		if c.s.Has(c.p) != c.want {
			t.Errorf("that %v has %v is %v", c.s, c.p, !c.want)
		}
	}
}

func TestMeet(t *testing.T) {
	touch := func(x, y, d int) api.Meeting {
		return api.Meeting{Kind: api.Touch, P: api.Point{X: x, Y: y, D: d}}
	}
	for _, c := range []struct {
		name string
		s, t Segment
		want api.Meeting
	}{
		{"cross", seg(0, 0, 1, 3), seg(0, 1, 1, 0), touch(1, 3, 4)},
		{"cross, clockwise", seg(0, 1, 1, 0), seg(0, 0, 1, 3), touch(1, 3, 4)},
		{"end on the middle", seg(-4, -4, 4, 4), seg(1, 1, 0, 9), touch(1, 1, 1)},
		{"lines meet behind the end", seg(0, 0, 4, 0), seg(5, 1, 5, -1), api.Meeting{}},
		{"lines meet ahead of the beginning", seg(0, 0, 4, 0), seg(-1, 1, -1, -1), api.Meeting{}},
		{"parallel", seg(0, 0, 4, 2), seg(0, 1, 4, 3), api.Meeting{}},
		{"one line, apart", seg(0, 0, 2, 2), seg(3, 3, 5, 5), api.Meeting{}},
		{"one line, end to end", seg(0, 0, 2, 2), seg(5, 5, 2, 2), touch(2, 2, 1)},
		{"one line, along", seg(0, 0, 3, 3), seg(5, 5, 2, 2), api.Meeting{Kind: api.Along, P: at(2, 2), Q: at(3, 3)}},
		{"the greatest divisor", seg(-64, -64, 64, 64), seg(-64, 64, 64, -64), touch(0, 0, 1)},
		{"a great divisor that stays", seg(-64, -64, 64, 63), seg(64, -64, -63, 64), touch(16320, -64, 32513)},
	} {
		if got := Meet(c.s, c.t); got != c.want {
			t.Errorf("%s: Meet(%v, %v) = %+v, want %+v", c.name, c.s, c.t, got, c.want)
		}
	}
}
