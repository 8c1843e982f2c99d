// Package segment: segments between grid points, and how two of them lie.
package segment

import (
	"overlay/api"
	"overlay/place"
)

// Segment: A, B and all places between them.
type Segment struct {
	A, B api.Point
}

// way: how far it is from one grid point to another.
type way struct {
	x, y int
}

func wayFrom(p api.Point, q api.Point) way {
	return way{x: q.X - p.X, y: q.Y - p.Y}
}

// cross is 0 if the ways v and w are parallel, above 0 if w goes to the left of v, below 0 if to the right.
func (v way) cross(w way) int {
	return v.x*w.y - v.y*w.x
}

// IsEmpty tells whether both ends of s, two grid points, are the same.
func (s Segment) IsEmpty() bool {
	return s.A == s.B
}

// Meet tells how s and t lie. Their ends are grid points, and neither is empty.
func Meet(s Segment, t Segment) api.Meeting {
	along := wayFrom(s.A, s.B)
	other := wayFrom(t.A, t.B)
	if along.cross(other) == 0 {
		return meetParallel(s, t)
	}
	return meetAcross(s, t)
}

// meetAcross tells how two segments lie that are not parallel.
func meetAcross(s Segment, t Segment) api.Meeting {
	along := wayFrom(s.A, s.B)
	other := wayFrom(t.A, t.B)
	gap := wayFrom(s.A, t.A)
	whole := along.cross(other)
	onS := gap.cross(other)
	onT := gap.cross(along)
	if whole < 0 {
		whole, onS, onT = -whole, -onS, -onT
	}
	// The lines meet where onS/whole of the way along s is gone, and onT/whole of the way along t.
	if onS < 0 || onS > whole || onT < 0 || onT > whole {
		return api.Meeting{}
	}
	// whole is at most 2 * 128 * 128, which is MaxDen: so the point is good.
	p := api.Point{X: s.A.X*whole + along.x*onS, Y: s.A.Y*whole + along.y*onS, D: whole}
	return api.Meeting{Kind: api.Touch, P: place.Least(p)}
}

// meetParallel tells how two segments lie that are parallel.
func meetParallel(s Segment, t Segment) api.Meeting {
	along := wayFrom(s.A, s.B)
	gap := wayFrom(s.A, t.A)
	if along.cross(gap) != 0 {
		return api.Meeting{}
	}
	return meetOnLine(s, t)
}

// meetOnLine tells how two segments of one line lie.
func meetOnLine(s Segment, t Segment) api.Meeting {
	firstS := place.First(s.A, s.B)
	firstT := place.First(t.A, t.B)
	lastS := place.Last(s.A, s.B)
	lastT := place.Last(t.A, t.B)
	from := place.Last(firstS, firstT)
	to := place.First(lastS, lastT)
	order := place.Compare(from, to)
	if order > 0 {
		return api.Meeting{}
	}
	if order == 0 {
		return api.Meeting{Kind: api.Touch, P: from}
	}
	return api.Meeting{Kind: api.Along, P: from, Q: to}
}
