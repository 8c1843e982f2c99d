package overlay

import (
	"math/big"
	"testing"

	"overlay/api"
)

func box(x0, y0, x1, y1 int) []api.Point { return ring(x0, y0, x1, y0, x1, y1, x0, y1) }

func over(x, y, d int) api.Point { return api.Point{X: x, Y: y, D: d} }

type locateCase struct {
	name string
	p    [][]api.Point
	q    api.Point
	want int
}

func runLocates(t *testing.T, cases []locateCase) {
	t.Helper()
	for _, c := range cases {
		if n, e := Locate(c.p, c.q); n != c.want || e != api.OK {
			t.Errorf("%s: Locate(%v, %v) = %d, %d, want %d", c.name, c.p, c.q, n, e, c.want)
		}
	}
}

func TestLocateP5(t *testing.T) {
	one := rings(box(0, 0, 4, 4))
	two := rings(box(0, 0, 4, 4), box(1, 1, 3, 3))
	zigzag := rings(ring(0, 0, 2, 4, 4, 0, 6, 4, 8, 0, 8, -4, 0, -4))
	runLocates(t, []locateCase{
		{"document: in the box", one, over(1, 1, 2), api.In},
		{"document: on its edge", one, at(4, 1), api.On},
		{"document: beside it", one, at(5, 1), api.Out},
		{"document: in the box in the box", two, at(2, 2), api.Out},
		{"between the boxes", two, over(1, 4, 2), api.In},
		{"the same place by another point", one, over(12, 3, 3), api.On},
		{"a corner by another point", one, over(32768, 131072, 32768), api.On},
		{"a hair inside", one, over(4*32768-1, 1, 32768), api.In},
		{"a hair outside", one, over(4*32768+1, 1, 32768), api.Out},
		{"the other way round", rings(ring(0, 4, 4, 4, 4, 0, 0, 0)), at(1, 1), api.In},
		{"straight below a tip", zigzag, at(2, 2), api.In},
		{"straight above a dent", zigzag, at(4, 2), api.Out},
		{"level with the tips", zigzag, at(4, 4), api.Out},
		{"level with the dent, inside", zigzag, at(4, -1), api.In},
		{"straight above a tip", zigzag, at(2, 5), api.Out},
		{"straight below an upright edge", zigzag, at(8, -5), api.Out},
		{"straight above an upright edge", zigzag, at(8, 1), api.Out},
		{"in a lap of itself", rings(ring(0, 0, 8, 0, 8, 8, 2, 2, 6, 2, 0, 8)), at(4, 3), api.Out},
		{"under a lap of itself", rings(ring(0, 0, 8, 0, 8, 8, 2, 2, 6, 2, 0, 8)), at(4, 1), api.In},
		{"two rings that lap", rings(box(0, 0, 4, 4), box(2, 2, 6, 6)), at(3, 3), api.Out},
		{"the same ring twice", rings(box(0, 0, 4, 4), box(0, 0, 4, 4)), at(3, 3), api.Out},
		{"on the same ring twice", rings(box(0, 0, 4, 4), box(0, 0, 4, 4)), at(3, 4), api.On},
		{"the same ring thrice", rings(box(0, 0, 4, 4), box(0, 0, 4, 4), box(0, 0, 4, 4)), at(3, 3), api.In},
		{"the same ring gone through twice", rings(append(box(0, 0, 4, 4), box(0, 0, 4, 4)...)), at(3, 3), api.Out},
	})
}

func TestLocateInPoorRingsP5(t *testing.T) {
	none := []api.Point(nil)
	stay := rings([]api.Point{at(2, 2), over(4, 4, 2), over(6, 6, 3)})
	there := rings([]api.Point{at(0, 0), over(9, 3, 2)})
	runLocates(t, []locateCase{
		{"no list", nil, at(0, 0), api.Out},
		{"no ring", rings(), at(0, 0), api.Out},
		{"rings of no point", make([][]api.Point, 3000), at(0, 0), api.Out},
		{"a ring of no point and a box", rings(none, box(0, 0, 4, 4), none), at(1, 1), api.In},
		{"at a ring of one point", rings(ring(3, 2)), over(6, 4, 2), api.On},
		{"beside a ring of one point", rings(ring(3, 2)), over(6, 5, 2), api.Out},
		{"below a ring of one point", rings(ring(3, 2)), at(3, 1), api.Out},
		{"a point in a box", rings(box(0, 0, 4, 4), ring(2, 2)), at(2, 2), api.On},
		{"below a point in a box", rings(box(0, 0, 4, 4), ring(2, 2)), at(2, 1), api.In},
		{"at three points of one place", stay, over(20, 20, 10), api.On},
		{"below three points of one place", stay, at(2, 1), api.Out},
		{"level with three points of one place", stay, at(3, 2), api.Out},
		{"on a ring of two points", there, over(3, 1, 1), api.On},
		{"at its end", there, over(18, 6, 4), api.On},
		{"below it", there, at(3, 0), api.Out},
		{"straight ahead of it", there, at(6, 2), api.Out},
		{"straight behind it", there, at(-3, -1), api.Out},
		{"a corner that stays", rings(ring(0, 0, 4, 0, 4, 0, 4, 4, 0, 4)), at(3, 1), api.In},
		{"below a box with a line in it", rings(box(0, 0, 4, 4), ring(1, 3, 3, 3)), at(2, 2), api.In},
		{"an edge back on itself", rings(ring(0, 0, 4, 0, 4, 4, 4, 8, 4, 4, 0, 4)), at(4, 6), api.On},
	})
}

// turn: the sign of the determinant of three points, reckoned without bounds.
func turn(a, b, c api.Point) int {
	product := func(x, y, z int) *big.Int {
		out := big.NewInt(int64(x))
		out.Mul(out, big.NewInt(int64(y)))
		return out.Mul(out, big.NewInt(int64(z)))
	}
	sum := product(a.X, b.Y, c.D)
	sum.Add(sum, product(a.Y, b.D, c.X))
	sum.Add(sum, product(a.D, b.X, c.Y))
	sum.Sub(sum, product(a.D, b.Y, c.X))
	sum.Sub(sum, product(a.X, b.D, c.Y))
	sum.Sub(sum, product(a.Y, b.X, c.D))
	return sum.Sign()
}

// between tells whether x/d is neither below nor above both a/k and b/n.
func between(a, k, b, n, x, d int) bool {
	low, high := x*k-a*d, x*n-b*d
	return low <= 0 && high >= 0 || low >= 0 && high <= 0
}

func onEdge(a, b, q api.Point) bool {
	return turn(a, b, q) == 0 && between(a.X, a.D, b.X, b.D, q.X, q.D) && between(a.Y, a.D, b.Y, b.D, q.Y, q.D)
}

// edgesOf: each edge of p as its two ends.
func edgesOf(p [][]api.Point) [][2]api.Point {
	var out [][2]api.Point
	for _, r := range p {
		for i := range r {
			out = append(out, [2]api.Point{r[i], r[(i+1)%len(r)]})
		}
	}
	return out
}

// farFrom: a place beyond all good ones, so that no point of the edges lies on one line with it and q.
func farFrom(edges [][2]api.Point, q api.Point) api.Point {
	for y := -517; ; y++ {
		far := over(1013, y, 1)
		clear := true
		for _, e := range edges {
			clear = clear && turn(q, far, e[0]) != 0
		}
		if clear {
			return far
		}
	}
}

// plainLocate answers as Locate should: it counts the edges between q and a place far away.
func plainLocate(p [][]api.Point, q api.Point) int {
	edges := edgesOf(p)
	for _, e := range edges {
		if onEdge(e[0], e[1], q) {
			return api.On
		}
	}
	far := farFrom(edges, q)
	crossed := 0
	for _, e := range edges {
		if turn(q, far, e[0]) != turn(q, far, e[1]) && turn(e[0], e[1], q) != turn(e[0], e[1], far) {
			crossed++
		}
	}
	return crossed % 2
}

// rough gives a good point whose coordinates are from -n to n, with a D of at most den.
func (d *dice) rough(n, den int) api.Point {
	k := den - (d.upTo(den-1)+den-1)/2
	x := d.upTo(n * k)
	return over(x, d.upTo(n*k), k)
}

// throwRings gives up to three rings of up to seven good points.
func throwRings(thrown *dice, n, den int) [][]api.Point {
	var p [][]api.Point
	for range 2 + thrown.upTo(1) {
		var r []api.Point
		for range 4 + thrown.upTo(3) - thrown.upTo(1) {
			r = append(r, thrown.rough(n, den))
		}
		p = append(p, r)
	}
	return p
}

func TestLocateThrownP5(t *testing.T) {
	var thrown dice
	for _, kind := range []struct{ rounds, n, den int }{{4000, 2, 1}, {4000, 1, 3}, {2000, 64, 1}, {2000, 64, api.MaxDen}} {
		var seen [3]int
		for range kind.rounds {
			p, q := throwRings(&thrown, kind.n, kind.den), thrown.rough(kind.n, kind.den)
			want := plainLocate(p, q)
			seen[want]++
			if n, e := Locate(p, q); n != want || e != api.OK {
				t.Errorf("Locate(%v, %v) = %d, %d, want %d", p, q, n, e, want)
			}
		}
		if seen[api.Out] < 100 || seen[api.In] < 100 || seen[api.On] < 100 && kind.n < 3 {
			t.Errorf("of %+v, only %v came out, in, on", kind, seen)
		}
	}
}

// TestLocateByAHairP5: half way along an edge, and the least step beside it.
func TestLocateByAHairP5(t *testing.T) {
	var thrown dice
	for range 2000 {
		a, b, c := thrown.rough(63, 127), thrown.rough(63, 127), thrown.rough(63, 127)
		middle := over(a.X*b.D+b.X*a.D, a.Y*b.D+b.Y*a.D, 2*a.D*b.D)
		p := rings([]api.Point{a, b, c})
		if n, e := Locate(p, middle); n != api.On || e != api.OK {
			t.Errorf("Locate(%v, %v) = %d, %d, want On", p, middle, n, e)
		}
		for i := range 9 {
			q := over(middle.X+i%3-1, middle.Y+i/3-1, middle.D)
			want := plainLocate(p, q)
			if n, e := Locate(p, q); n != want || e != api.OK {
				t.Errorf("Locate(%v, %v) = %d, %d, want %d", p, q, n, e, want)
			}
		}
	}
}

// notGood: each fails to be a good point in a way of its own.
func notGood() []api.Point {
	const m = api.MaxDen
	out := []api.Point{
		over(129, 0, 2), over(-129, 0, 2), over(0, 129, 2), over(0, -129, 2), over(1, 1, m+1),
		over(64*m+1, 0, m), over(-64*m-1, 0, m), over(0, 64*m+1, m), over(0, -64*m-1, m),
	}
	for _, p := range badPoints() {
		if !isGoodPoint(p) {
			out = append(out, p)
		}
	}
	return out
}

func TestLocateRefusesPointsP5(t *testing.T) {
	b := box(0, 0, 4, 4)
	for _, bad := range notGood() {
		for _, c := range []struct {
			p [][]api.Point
			q api.Point
		}{
			{nil, bad}, {rings(b), bad}, {rings(ring()), bad},
			{rings([]api.Point{bad}), at(9, 9)}, {rings([]api.Point{at(0, 0), bad}), at(0, 0)}, {rings([]api.Point{bad, at(4, 0), at(0, 4)}), at(1, 1)},
			{rings(b, nil, []api.Point{at(0, 0), at(4, 0), bad}), at(0, 0)}, {rings([]api.Point{bad}), bad},
		} {
			if n, e := Locate(c.p, c.q); n != 0 || e != api.ErrPoint {
				t.Errorf("Locate(%v, %v) = %d, %d, want ErrPoint", c.p, c.q, n, e)
			}
		}
	}
}

func TestLocateAtTheRimP5(t *testing.T) {
	const m = api.MaxDen
	whole := rings([]api.Point{over(-64*m, -64*m, m), over(64, -64, 1), over(64*m, 64*m, m), over(-128, 128, 2)})
	runLocates(t, []locateCase{
		{"a corner", whole, at(64, 64), api.On}, {"another point of it", whole, over(64*m, 64*m, m), api.On}, {"the last corner", whole, over(-64*m, 64*m, m), api.On},
		{"an edge", whole, over(1, 64*m, m), api.On}, {"just inside", whole, over(64*m-1, 64*m-1, m), api.In}, {"just inside the first corner", whole, over(1-64*m, 1-64*m, m), api.In},
	})
}

func TestLocateCountsP5(t *testing.T) {
	saw := make([]api.Point, 0, 2000)
	for i := range 1998 {
		saw = append(saw, at(i%32-16, i%2*8))
	}
	saw = append(saw, at(20, 20), at(-20, 20))
	for _, p := range [][][]api.Point{rings(saw), rings(saw[:1000], saw[1000:]), rings(saw[:1], nil, saw[1:])} {
		q := over(1, 31, 4)
		want := plainLocate(p, q)
		if n, e := Locate(p, q); n != want || e != api.OK {
			t.Errorf("Locate of 2000 points = %d, %d, want %d", n, e, want)
		}
	}
	for _, p := range [][][]api.Point{
		rings(saw, ring(0, 0)), rings(ring(0, 0), saw), rings(saw[:1000], saw[:1000], nil, saw[:1]), rings(make([]api.Point, 2001)), rings(saw, saw, saw, saw, saw),
		// A count is named ahead of a point.
		rings(saw, []api.Point{{}}), rings([]api.Point{{}}, saw),
	} {
		for _, q := range []api.Point{at(0, 0), {}} {
			if n, e := Locate(p, q); n != 0 || e != api.ErrCount {
				t.Errorf("Locate of too many points, %v = %d, %d, want ErrCount", q, n, e)
			}
		}
	}
}
