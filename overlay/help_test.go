package overlay

import "overlay/api"

func at(x, y int) api.Point { return api.Point{X: x, Y: y, D: 1} }

// ring: of coordinates, two and two.
func ring(l ...int) []api.Point {
	var out []api.Point
	for i := 0; i+1 < len(l); i += 2 {
		out = append(out, at(l[i], l[i+1]))
	}
	return out
}

func rings(l ...[]api.Point) [][]api.Point { return l }

// dice: numbers that look thrown and are the same in each run.
type dice struct{ state uint64 }

// upTo gives a number from -n to n.
func (d *dice) upTo(n int) int {
	d.state = d.state*6364136223846793005 + 1442695040888963407
	return int((d.state>>33)%uint64(2*n+1)) - n
}

func (d *dice) point(n int) api.Point {
	x := d.upTo(n)
	return at(x, d.upTo(n))
}

// side: the determinant of a, b and p; 0 if they lie on one line. a and b are grid points.
func side(a, b, p api.Point) int {
	return (b.X-a.X)*(p.Y-a.Y*p.D) - (b.Y-a.Y)*(p.X-a.X*p.D)
}

// onSegment tells whether the place p lies on the segment between the grid points a and b.
func onSegment(a, b, p api.Point) bool {
	return side(a, b, p) == 0 &&
		min(a.X, b.X)*p.D <= p.X && p.X <= max(a.X, b.X)*p.D &&
		min(a.Y, b.Y)*p.D <= p.Y && p.Y <= max(a.Y, b.Y)*p.D
}

// gridInCommon: the grid points on both segments, in the order of places, found by trying each one.
func gridInCommon(a, b, c, d api.Point) []api.Point {
	var out []api.Point
	for x := min(a.X, b.X); x <= max(a.X, b.X); x++ {
		for y := min(a.Y, b.Y); y <= max(a.Y, b.Y); y++ {
			p := at(x, y)
			if onSegment(a, b, p) && onSegment(c, d, p) {
				out = append(out, p)
			}
		}
	}
	return out
}
