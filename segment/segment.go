// Package segment: segments, how two of them lie, and how they lie to a place.
package segment

import (
	"overlay/api"
	"overlay/place"
)

// Segment: A, B and all places between them. A and B are good points.
type Segment struct {
	A, B api.Point
}

// way: how far it is from one grid point to another.
type way struct {
	x, y int
}

func wayFrom(p api.Point, q api.Point) way {
	return way{x: q.X - p.X, y: q.Y - p.Y}
}

// cross is 0 if the ways v and w are parallel, above 0 if w goes to the left of v, below 0 if to the right.
func (v way) cross(w way) int {
	return v.x*w.y - v.y*w.x
}

// IsEmpty tells whether both ends of s, two grid points, are the same.
func (s Segment) IsEmpty() bool {
	return s.A == s.B
}

// Forward gives s as one goes along it in the order of places.
func (s Segment) Forward() Segment {
	first := place.First(s.A, s.B)
	last := place.Last(s.A, s.B)
	return Segment{A: first, B: last}
}

// Spans tells whether p, a good point, is neither ahead of s in the order of places nor behind it: it may be where s begins, but not where s ends.
func (s Segment) Spans(p api.Point) bool {
	forward := s.Forward()
	if place.Compare(p, forward.A) < 0 {
		return false
	}
	return place.Compare(p, forward.B) < 0
}

// Side tells where p, a good point, lies to one who goes along s in the order of places: 0 if straight ahead or behind, above 0 if to the left, below 0 if to the right.
func (s Segment) Side(p api.Point) int {
	forward := s.Forward()
	return place.Side(forward.A, forward.B, p)
}

// Has tells whether the place p, a good point, is on s.
func (s Segment) Has(p api.Point) bool {
	forward := s.Forward()
	if place.Compare(p, forward.A) < 0 {
		return false
	}
	if place.Compare(p, forward.B) > 0 {
		return false
	}
	return place.Side(forward.A, forward.B, p) == 0
}

// Meet tells how s and t lie. Their ends are grid points, and neither is empty.
func Meet(s Segment, t Segment) api.Meeting {
	along := wayFrom(s.A, s.B)
	other := wayFrom(t.A, t.B)
	if along.cross(other) == 0 {
		return meetParallel(s, t)
	}
	return meetAcross(s, t)
}

// meetAcross tells how two segments lie that are not parallel.
func meetAcross(s Segment, t Segment) api.Meeting {
	along := wayFrom(s.A, s.B)
	other := wayFrom(t.A, t.B)
	gap := wayFrom(s.A, t.A)
	whole := along.cross(other)
	onS := gap.cross(other)
	onT := gap.cross(along)
	if whole < 0 {
		whole, onS, onT = -whole, -onS, -onT
	}
	// The lines meet where onS/whole of the way along s is gone, and onT/whole of the way along t.
	if onS < 0 || onS > whole || onT < 0 || onT > whole {
		return api.Meeting{}
	}
	// whole is at most 2 * 128 * 128, which is MaxDen: so the point is good.
	p := api.Point{X: s.A.X*whole + along.x*onS, Y: s.A.Y*whole + along.y*onS, D: whole}
	return api.Meeting{Kind: api.Touch, P: place.Least(p)}
}

// meetParallel tells how two segments lie that are parallel.
func meetParallel(s Segment, t Segment) api.Meeting {
	along := wayFrom(s.A, s.B)
	gap := wayFrom(s.A, t.A)
	if along.cross(gap) != 0 {
		return api.Meeting{}
	}
	return meetOnLine(s, t)
}

// meetOnLine tells how two segments of one line lie.
func meetOnLine(s Segment, t Segment) api.Meeting {
	forwardS := s.Forward()
	forwardT := t.Forward()
	from := place.Last(forwardS.A, forwardT.A)
	to := place.First(forwardS.B, forwardT.B)
	order := place.Compare(from, to)
	if order > 0 {
		return api.Meeting{}
	}
	if order == 0 {
		return api.Meeting{Kind: api.Touch, P: from}
	}
	return api.Meeting{Kind: api.Along, P: from, Q: to}
}
