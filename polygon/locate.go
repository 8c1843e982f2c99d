package polygon

import (
	"overlay/api"
	"overlay/place"
	"overlay/segment"
)

// Locate tells where the place q lies (P5).
func Locate(p [][]api.Point, q api.Point) (int, api.Errno) {
	if hasMore(p, api.MaxAll) {
		return 0, api.ErrCount
	}
	if !place.IsGood(q) {
		return 0, api.ErrPoint
	}
	edges := Edges(p)
	if !areGood(edges) {
		return 0, api.ErrPoint
	}
	return find(edges, q), api.OK
}

// hasMore tells whether there are more points in all rings of p than so many.
func hasMore(p [][]api.Point, many int) bool {
	room := many
	for _, ring := range p {
		if len(ring) > room {
			return true
		}
		room -= len(ring)
	}
	return false
}

// areGood tells whether the edges go from good points alone; as each point has an edge that goes from it, so they go to such alone.
func areGood(edges []segment.Segment) bool {
	for _, edge := range edges {
		if !place.IsGood(edge.A) {
			return false
		}
	}
	return true
}

// find tells where q lies to the polygon of these edges.
func find(edges []segment.Segment, q api.Point) int {
	where := api.Out
	for _, edge := range edges {
		if edge.Has(q) {
			return api.On
		}
		if isOver(edge, q) {
			where = other(where)
		}
	}
	return where
}

// isOver tells whether a ray that goes up from q, which is not on the edge, crosses the edge. The ray leans to the left by less than any number: so it goes through no point, and what is ahead of q in the order of places is to the left of it, what is behind to the right.
func isOver(edge segment.Segment, q api.Point) bool {
	if !edge.Spans(q) {
		return false
	}
	return edge.Side(q) < 0
}

// other: where one is behind a crossing.
func other(where int) int {
	if where == api.Out {
		return api.In
	}
	return api.Out
}
