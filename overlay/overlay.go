// Package overlay: polygons laid over one another, exactly: see DOC.md.
package overlay

import (
	"overlay/api"
	"overlay/border"
	"overlay/cut"
	"overlay/nest"
	"overlay/place"
	"overlay/polygon"
	"overlay/segment"
)

// Meet tells how two segments lie (P3).
func Meet(a api.Point, b api.Point, c api.Point, d api.Point) (api.Meeting, api.Errno) {
	for _, p := range [4]api.Point{a, b, c, d} {
		if !place.IsGrid(p) {
			return api.Meeting{}, api.ErrPoint
		}
	}
	s := segment.Segment{A: a, B: b}
	if s.IsEmpty() {
		return api.Meeting{}, api.ErrEdge
	}
	t := segment.Segment{A: c, B: d}
	if t.IsEmpty() {
		return api.Meeting{}, api.ErrEdge
	}
	return segment.Meet(s, t), api.OK
}

// Check tells whether a polygon may be laid over another (P4).
func Check(p [][]api.Point) (api.Errno, int) {
	return polygon.Check(p)
}

// Locate tells where a point lies (P5).
func Locate(p [][]api.Point, q api.Point) (int, api.Errno) {
	return polygon.Locate(p, q)
}

// Pieces cuts the edges of two polygons wherever they meet (P6).
func Pieces(a [][]api.Point, b [][]api.Point) ([]api.Piece, api.Errno) {
	e := checkBoth(a, b)
	if e != api.OK {
		return nil, e
	}
	return cut.Pieces(a, b), api.OK
}

// checkBoth gives the error of Check(a) or, if there is none, that of Check(b).
func checkBoth(a [][]api.Point, b [][]api.Point) api.Errno {
	e, _ := polygon.Check(a)
	if e != api.OK {
		return e
	}
	e, _ = polygon.Check(b)
	return e
}

// Clip gives the rings of what two polygons make together (P7).
func Clip(op int, a [][]api.Point, b [][]api.Point) ([][]api.Point, api.Errno) {
	if op < api.And || op > api.Xor {
		return nil, api.ErrOp
	}
	e := checkBoth(a, b)
	if e != api.OK {
		return nil, e
	}
	pieces := cut.Pieces(a, b)
	return border.Rings(op, pieces), api.OK
}

// Nest tells which of the rings are holes, and in which others (P8).
func Nest(op int, a [][]api.Point, b [][]api.Point) ([]int, api.Errno) {
	rings, e := Clip(op, a, b)
	if e != api.OK {
		return nil, e
	}
	return nest.Shells(rings), api.OK
}
