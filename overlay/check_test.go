package overlay

import (
	"testing"

	"overlay/api"
)

type checkCase struct {
	name string
	p    [][]api.Point
	e    api.Errno
	n    int
}

func runChecks(t *testing.T, cases []checkCase) {
	t.Helper()
	for _, c := range cases {
		if e, n := Check(c.p); e != c.e || n != c.n {
			t.Errorf("%s: Check(%v) = %d, %d, want %d, %d", c.name, c.p, e, n, c.e, c.n)
		}
	}
}

func TestCheckTakesP4(t *testing.T) {
	tri := ring(0, 0, 4, 0, 0, 4)
	runChecks(t, []checkCase{
		{"no list", nil, api.OK, 0},
		{"no ring", rings(), api.OK, 0},
		{"document: crosses itself", rings(ring(0, 0, 4, 4, 4, 0, 0, 4)), api.OK, 0},
		{"three points", rings(tri), api.OK, 0},
		{"the corners of the grid", rings(ring(-64, -64, 64, -64, 64, 64, -64, 64)), api.OK, 0},
		{"twelve points", rings(ring(0, 0, 1, 0, 2, 0, 3, 0, 3, 1, 3, 2, 3, 3, 2, 3, 1, 3, 0, 3, 0, 2, 0, 1)), api.OK, 0},
		{"four rings of three", rings(tri, ring(9, 0, 13, 0, 9, 4), ring(0, 9, 4, 9, 0, 13), ring(9, 9, 13, 9, 9, 13)), api.OK, 0},
		{"straight on", rings(ring(0, 0, 4, 0, 8, 0, 0, 4)), api.OK, 0},
		{"a point twice", rings(ring(0, 0, 4, 0, 4, 4, 0, 0, -4, 0, -4, -4)), api.OK, 0},
		{"corners on edges", rings(ring(0, 0, 4, 0, 4, 4, 0, 4), ring(2, 0, 4, 2, 2, 4, 0, 2)), api.OK, 0},
		{"edges of one line that touch", rings(tri, ring(4, 0, 6, 0, 5, -4)), api.OK, 0},
		{"edges of one line apart", rings(tri, ring(5, 0, 7, 0, 6, -4)), api.OK, 0},
		{"rings that cross", rings(tri, ring(1, 1, 9, 1, 1, 9)), api.OK, 0},
	})
}

func TestCheckCountsP4(t *testing.T) {
	tri := ring(0, 0, 4, 0, 0, 4)
	box := ring(0, 0, 4, 0, 4, 4, 0, 4)
	two := ring(0, 0, 4, 0)
	bad := make([]api.Point, 3)
	runChecks(t, []checkCase{
		{"five rings", rings(tri, tri, tri, tri, tri), api.ErrRings, 0},
		{"five rings, some too short", rings(nil, two, tri, tri, tri), api.ErrRings, 0},
		{"very many rings", make([][]api.Point, 100000), api.ErrRings, 0},
		{"document: two points", rings(two), api.ErrCount, 0},
		{"one point", rings(ring(0, 0)), api.ErrCount, 0},
		{"no point", rings(nil), api.ErrCount, 0},
		{"no point in the fourth ring", rings(tri, tri, tri, ring()), api.ErrCount, 3},
		{"the first of two short rings", rings(tri, two, nil), api.ErrCount, 1},
		{"thirteen points", rings(make([]api.Point, 13)), api.ErrCount, 0},
		{"thirteen points in two rings", rings(make([]api.Point, 9), box), api.ErrCount, 1},
		{"thirteen points in four rings", rings(bad, bad, bad, box), api.ErrCount, 3},
		{"twelve points, then too few", rings(box, box, box, two), api.ErrCount, 3},
		{"too many, then too few", rings(tri, make([]api.Point, 10), nil), api.ErrCount, 1},
		{"too few, then too many", rings(tri, nil, make([]api.Point, 100000)), api.ErrCount, 1},
		{"a count ahead of a point", rings(bad, two), api.ErrCount, 1},
	})
}

func TestCheckPointsP4(t *testing.T) {
	tri := ring(0, 0, 4, 0, 0, 4)
	for _, bad := range badPoints() {
		runChecks(t, []checkCase{
			{"first", rings([]api.Point{bad, at(4, 0), at(0, 4)}), api.ErrPoint, 0},
			{"last", rings([]api.Point{at(0, 0), at(4, 0), bad}), api.ErrPoint, 2},
			{"the first of two", rings([]api.Point{at(0, 0), bad, bad}), api.ErrPoint, 1},
			{"in the second ring", rings(tri, []api.Point{at(0, 0), bad, at(0, 4)}), api.ErrPoint, 4},
			{"ahead of an edge", rings(ring(1, 1, 1, 1, 1, 1), []api.Point{at(0, 0), at(4, 0), at(0, 4), bad}), api.ErrPoint, 6},
			{"ahead of a share", rings(tri, tri, []api.Point{at(0, 0), at(4, 0), bad}), api.ErrPoint, 8},
		})
	}
}

func TestCheckEdgesP4(t *testing.T) {
	tri := ring(0, 0, 4, 0, 0, 4)
	runChecks(t, []checkCase{
		{"first edge", rings(ring(0, 0, 0, 0, 0, 4)), api.ErrEdge, 0},
		{"second edge", rings(ring(0, 0, 4, 0, 4, 0, 0, 4)), api.ErrEdge, 1},
		{"from the last point to the first", rings(ring(0, 0, 4, 0, 0, 4, 0, 0)), api.ErrEdge, 3},
		{"the first of several", rings(tri, ring(1, 1, 9, 9, 9, 9, 9, 9)), api.ErrEdge, 4},
		{"ahead of a share", rings(tri, tri, ring(9, 9, 9, 8, 9, 8)), api.ErrEdge, 7},
		{"last point of one ring, first of the next", rings(tri, ring(0, 4, 9, 9, 0, 9)), api.OK, 0},
		{"document: back on itself", rings(ring(0, 0, 4, 0, 2, 0)), api.ErrShare, 1},
		{"document: along a ring ahead", rings(tri, ring(2, 0, 6, 0, 2, -4)), api.ErrShare, 3},
		{"the last edge", rings(ring(0, 0, 2, 0, 2, 2, 4, 0)), api.ErrShare, 3},
		{"two rings alike", rings(tri, tri), api.ErrShare, 3},
		{"two rings alike, one the other way round", rings(tri, ring(0, 4, 4, 0, 0, 0)), api.ErrShare, 3},
		{"an edge ahead of one that lies along a lower one", rings(ring(0, 0, 4, 0, 4, 4, 2, 4, 2, 6, 3, 4, 0, 4), ring(1, 0, 2, 0, 1, -1)), api.ErrShare, 5},
		{"slanted", rings(ring(0, 0, 6, 3, 6, 0), ring(4, 2, 8, 4, 9, 9)), api.ErrShare, 3},
		{"a unit in common at the rim", rings(ring(64, 64, 64, -64, 0, 0), ring(64, -64, 64, -63, 63, -64)), api.ErrShare, 3},
	})
}

// plainCheck answers as Check should, for up to four rings of three or four points of a small grid: by the grid points that edges have in common.
func plainCheck(p [][]api.Point) (api.Errno, int) {
	var from, to []api.Point
	for k, r := range p {
		if len(from)+len(r) > 12 {
			return api.ErrCount, k
		}
		from = append(from, r...)
		to = append(append(to, r[1:]...), r[0])
	}
	for i := range from {
		if from[i] == to[i] {
			return api.ErrEdge, i
		}
	}
	for i := range from {
		for j := range i {
			if len(gridInCommon(from[i], to[i], from[j], to[j])) > 1 {
				return api.ErrShare, i
			}
		}
	}
	return api.OK, 0
}

// throwPolygon gives up to four rings of three or four points.
func throwPolygon(thrown *dice) [][]api.Point {
	var p [][]api.Point
	for range 2 + thrown.upTo(2) {
		var r []api.Point
		for range 3 + max(thrown.upTo(1), 0) {
			r = append(r, thrown.point(4))
		}
		p = append(p, r)
	}
	return p
}

func TestCheckThrownP4(t *testing.T) {
	var thrown dice
	var seen [7]int
	for range 20000 {
		p := throwPolygon(&thrown)
		wantE, wantN := plainCheck(p)
		seen[wantE]++
		if e, n := Check(p); e != wantE || n != wantN {
			t.Errorf("Check(%v) = %d, %d, want %d, %d", p, e, n, wantE, wantN)
		}
	}
	for _, e := range []api.Errno{api.OK, api.ErrCount, api.ErrEdge, api.ErrShare} {
		if seen[e] < 100 {
			t.Errorf("the error %d came only %d times", e, seen[e])
		}
	}
}
