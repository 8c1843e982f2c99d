package overlay

import (
	"math"
	"testing"

	"overlay/api"
)

func touch(x, y, d int) api.Meeting {
	return api.Meeting{Kind: api.Touch, P: api.Point{X: x, Y: y, D: d}}
}

func along(x0, y0, x1, y1 int) api.Meeting {
	return api.Meeting{Kind: api.Along, P: at(x0, y0), Q: at(x1, y1)}
}

// turned: the two segments each way round and in both orders.
func turned(p []api.Point) [][4]api.Point {
	a, b, c, d := p[0], p[1], p[2], p[3]
	return [][4]api.Point{
		{a, b, c, d}, {b, a, c, d}, {a, b, d, c}, {b, a, d, c},
		{c, d, a, b}, {c, d, b, a}, {d, c, a, b}, {d, c, b, a},
	}
}

func TestMeetP3(t *testing.T) {
	for _, c := range []struct {
		name string
		l    []api.Point
		want api.Meeting
	}{
		{"document: cross", ring(0, 0, 4, 4, 0, 4, 4, 0), touch(2, 2, 1)},
		{"document: cross off the grid", ring(0, 0, 3, 1, 0, 1, 3, 0), touch(3, 1, 2)},
		{"document: along", ring(0, 0, 4, 0, 6, 0, 2, 0), along(2, 0, 4, 0)},
		{"document: corner", ring(0, 0, 2, 0, 2, 0, 2, 5), touch(2, 0, 1)},
		{"document: parallel", ring(0, 0, 2, 0, 0, 1, 2, 1), api.Meeting{}},
		{"cross below zero", ring(-1, -2, 0, 0, -1, 0, 0, -1), touch(-1, -2, 3)},
		{"cross on an axis", ring(0, -3, 0, 4, -1, 0, 2, 1), touch(0, 1, 3)},
		{"a great divisor", ring(-64, -64, 64, 63, 64, -64, -63, 64), touch(16320, -64, 32513)},
		{"the greatest divisor", ring(-64, -64, 64, 64, -64, 64, 64, -64), touch(0, 0, 1)},
		{"end within", ring(0, 0, 6, 3, 4, 2, 0, 9), touch(4, 2, 1)},
		{"just short of touching", ring(0, 0, 6, 3, 4, 3, 0, 9), api.Meeting{}},
		{"one crosses only the other's line", ring(0, 0, 1, 1, 2, 3, 3, 2), api.Meeting{}},
		{"upright, along", ring(5, -64, 5, 3, 5, 64, 5, -3), along(5, -3, 5, 3)},
		{"falling, along", ring(-4, 4, 0, 0, -2, 2, 2, -2), along(-2, 2, 0, 0)},
		{"one within the other", ring(-64, 0, 64, 0, 2, 0, 1, 0), along(1, 0, 2, 0)},
		{"the same", ring(7, 1, 3, 9, 7, 1, 3, 9), along(3, 9, 7, 1)},
		{"a common end, along", ring(0, 0, 6, 2, 0, 0, 3, 1), along(0, 0, 3, 1)},
		{"one line, end to end", ring(0, 0, 2, 1, 2, 1, 6, 3), touch(2, 1, 1)},
		{"one upright line, end to end", ring(0, 0, 0, 2, 0, 2, 0, 3), touch(0, 2, 1)},
		{"one line, apart", ring(0, 0, 2, 1, 4, 2, 6, 3), api.Meeting{}},
		{"one upright line, apart", ring(0, 0, 0, 2, 0, 3, 0, 4), api.Meeting{}},
	} {
		for _, l := range turned(c.l) {
			if got, e := Meet(l[0], l[1], l[2], l[3]); got != c.want || e != api.OK {
				t.Errorf("%s: Meet(%v) = %+v, %d, want %+v", c.name, l, got, e, c.want)
			}
		}
	}
}

// badPoints: each fails to be a grid point in a way of its own.
func badPoints() []api.Point {
	return []api.Point{
		{}, {X: 65, D: 1}, {X: -65, D: 1}, {Y: 65, D: 1}, {Y: -65, D: 1},
		{X: 1, Y: 1}, {X: 1, Y: 1, D: -1}, {X: 1, Y: 1, D: 2}, {X: 2, Y: 2, D: 2}, {D: api.MaxDen}, {D: api.MaxDen + 1},
		{X: math.MaxInt, D: 1}, {X: math.MinInt, D: 1}, {Y: math.MaxInt, D: 1}, {Y: math.MinInt, D: 1},
		{D: math.MaxInt}, {D: math.MinInt}, {X: math.MinInt, Y: math.MinInt, D: -1},
		{X: 1 << 32, D: 1}, {Y: 1 << 32, D: 1}, {D: 1<<32 + 1},
	}
}

func TestMeetRefusesP3(t *testing.T) {
	o, z := at(0, 0), at(1, 1)
	for _, p := range badPoints() {
		// A bad point is named ahead of an edge of no length.
		for _, l := range [][4]api.Point{{p, z, o, z}, {o, p, o, z}, {o, z, p, z}, {o, z, o, p}, {p, p, o, z}, {o, o, p, z}, {p, p, p, p}} {
			if got, e := Meet(l[0], l[1], l[2], l[3]); got != (api.Meeting{}) || e != api.ErrPoint {
				t.Errorf("Meet(%v) = %+v, %d, want ErrPoint", l, got, e)
			}
		}
	}
	for _, l := range [][4]api.Point{{o, o, o, z}, {z, z, o, z}, {o, z, o, o}, {o, z, z, z}, {o, o, o, o}, {o, o, z, z}} {
		if got, e := Meet(l[0], l[1], l[2], l[3]); got != (api.Meeting{}) || e != api.ErrEdge {
			t.Errorf("Meet(%v) = %+v, %d, want ErrEdge", l, got, e)
		}
	}
}

func divides(n int, p api.Point) bool { return p.X%n == 0 && p.Y%n == 0 && p.D%n == 0 }

func inLeastTerms(p api.Point) bool {
	for n := 2; n <= p.D; n++ {
		if divides(n, p) {
			return false
		}
	}
	return true
}

// crossesWithin tells whether the segments cross at a place that is an end of neither.
func crossesWithin(a, b, c, d api.Point) bool {
	apartC := (side(a, b, c) < 0) != (side(a, b, d) < 0) && side(a, b, c) != 0 && side(a, b, d) != 0
	apartA := (side(c, d, a) < 0) != (side(c, d, b) < 0) && side(c, d, a) != 0 && side(c, d, b) != 0
	return apartC && apartA
}

// agrees tells whether m is how the segments lie: judged by the grid points on both of them, and by the sides on which their ends lie.
func agrees(m api.Meeting, a, b, c, d api.Point) bool {
	common := gridInCommon(a, b, c, d)
	if len(common) > 1 {
		return m == api.Meeting{Kind: api.Along, P: common[0], Q: common[len(common)-1]}
	}
	if len(common) == 1 {
		return m == api.Meeting{Kind: api.Touch, P: common[0]}
	}
	if !crossesWithin(a, b, c, d) {
		return m == api.Meeting{}
	}
	good := m.P.D >= 2 && m.P.D <= api.MaxDen && onSegment(a, b, m.P) && onSegment(c, d, m.P)
	return m.Kind == api.Touch && good && inLeastTerms(m.P) && m.Q == api.Point{}
}

func checkMeet(t *testing.T, a, b, c, d api.Point) {
	t.Helper()
	if m, e := Meet(a, b, c, d); e != api.OK || !agrees(m, a, b, c, d) {
		t.Errorf("Meet(%v, %v, %v, %v) = %+v, %d", a, b, c, d, m, e)
	}
}

func TestMeetOnSmallGridP3(t *testing.T) {
	var grid []api.Point
	for i := range 16 {
		grid = append(grid, at(i%4-1, i/4-2))
	}
	for i := range 16 * 16 * 16 * 16 {
		a, b, c, d := grid[i%16], grid[i/16%16], grid[i/256%16], grid[i/4096]
		if a != b && c != d {
			checkMeet(t, a, b, c, d)
		}
	}
}

func TestMeetOnWholeGridP3(t *testing.T) {
	var thrown dice
	for range 2000 {
		a, b, c, d := thrown.point(64), thrown.point(64), thrown.point(64), thrown.point(64)
		if a != b && c != d {
			checkMeet(t, a, b, c, d)
		}
	}
}
