package overlay

import (
	"math"
	"slices"
	"testing"

	"overlay/api"
)

// wildPoints: of numbers at which sums, products and quotients might go wrong.
func wildPoints() []api.Point {
	numbers := []int{0, 1, -1, 64, -65, api.MaxDen, 1 << 32, math.MaxInt, math.MinInt}
	var out []api.Point
	for _, x := range numbers {
		for _, y := range []int{0, 1, math.MinInt} {
			for _, d := range numbers {
				out = append(out, api.Point{X: x, Y: y, D: d})
			}
		}
	}
	return out
}

func isGridPoint(p api.Point) bool {
	return p.D == 1 && p.X >= -64 && p.X <= 64 && p.Y >= -64 && p.Y <= 64
}

// wantMeetError: the error that stands first, told by the document's words alone.
func wantMeetError(a, b, c, d api.Point) api.Errno {
	if !isGridPoint(a) || !isGridPoint(b) || !isGridPoint(c) || !isGridPoint(d) {
		return api.ErrPoint
	}
	if a == b || c == d {
		return api.ErrEdge
	}
	return api.OK
}

func TestMeetAtAllNumbersP1(t *testing.T) {
	wild := wildPoints()
	for _, p := range wild {
		for _, q := range wild {
			for _, l := range [][4]api.Point{{p, q, at(0, 0), at(1, 1)}, {at(0, 0), at(1, 1), p, q}, {p, at(2, 2), q, at(3, 0)}} {
				m, e := Meet(l[0], l[1], l[2], l[3])
				if want := wantMeetError(l[0], l[1], l[2], l[3]); e != want {
					t.Fatalf("Meet(%v): error %d, want %d", l, e, want)
				}
				if e != api.OK && m != (api.Meeting{}) {
					t.Fatalf("Meet(%v) = %+v with error %d", l, m, e)
				}
			}
		}
	}
}

func TestCheckAtAllNumbersP1(t *testing.T) {
	for _, p := range wildPoints() {
		want, number := api.ErrPoint, 1
		if isGridPoint(p) {
			want, number = api.OK, 0
		}
		l := rings([]api.Point{at(-3, -7), p, at(9, 2)})
		if e, n := Check(l); e != want || n != number {
			t.Errorf("Check(%v) = %d, %d, want %d, %d", l, e, n, want, number)
		}
	}
}

func TestCheckAtAllListsP1(t *testing.T) {
	long := make([]api.Point, 1<<20)
	for count := range 7 {
		for _, r := range [][]api.Point{nil, {}, make([]api.Point, 1), make([]api.Point, 2), long} {
			l := make([][]api.Point, count)
			for i := range l {
				l[i] = r
			}
			want := api.ErrCount
			if count == 0 {
				want = api.OK
			}
			if count > 4 {
				want = api.ErrRings
			}
			if e, n := Check(l); e != want || n != 0 {
				t.Errorf("Check of %d rings of %d points = %d, %d, want %d, 0", count, len(r), e, n, want)
			}
		}
	}
}

// roomy gives p again, laid out so that its lists have spare room with marks in it; then the list in which its rings lie, and the list whose beginning it is.
func roomy(p [][]api.Point) ([][]api.Point, []api.Point, [][]api.Point) {
	mark := api.Point{X: 11, Y: 22, D: 33}
	flat := make([]api.Point, 0, 200)
	spare := [][]api.Point{}
	for _, r := range p {
		flat = append(flat, mark)
		begin := len(flat)
		flat = append(flat, r...)
		spare = append(spare, flat[begin:])
		flat = append(flat, mark, mark)
	}
	count := len(spare)
	spare = append(spare, []api.Point{mark}, []api.Point{mark, mark})
	return spare[:count], flat, spare
}

func copyPolygon(p [][]api.Point) [][]api.Point {
	var out [][]api.Point
	for _, r := range p {
		out = append(out, slices.Clone(r))
	}
	return out
}

func samePolygon(p, q [][]api.Point) bool { return slices.EqualFunc(p, q, slices.Equal[[]api.Point]) }

func TestCheckLeavesItsArgumentP2(t *testing.T) {
	for _, p := range [][][]api.Point{
		rings(ring(0, 0, 4, 0, 4, 4, 0, 4), ring(9, 9, 12, 9, 9, 12)),
		rings(ring(0, 0, 4, 0, 0, 4), ring(0, 0, 65, 0, 0, 4)),
		rings(ring(0, 0, 4, 0, 0, 4), ring(9, 9, 9, 9, 0, 4)),
		rings(ring(0, 0, 4, 0, 0, 4), ring(2, 0, 6, 0, 2, -4)),
		rings(ring(0, 0, 4, 0, 0, 4), ring(2, 0)),
		rings(ring(0, 0, 1, 0, 0, 1), nil, nil, nil, nil),
	} {
		l, flat, spare := roomy(p)
		flatBefore := slices.Clone(flat)
		spareBefore := copyPolygon(spare)
		wantE, wantN := Check(p)
		e, n := Check(l)
		if e != wantE || n != wantN {
			t.Errorf("Check(%v) = %d, %d, then %d, %d", p, wantE, wantN, e, n)
		}
		if !slices.Equal(flat, flatBefore) || !samePolygon(spare, spareBefore) {
			t.Errorf("Check(%v) wrote into what it was handed", p)
		}
	}
}

func TestCheckKeepsNothingP2(t *testing.T) {
	p := rings(ring(0, 0, 4, 0, 4, 4, 0, 4))
	for round := range 3 {
		p[0][2] = at(4, 4)
		if e, n := Check(p); e != api.OK || n != 0 {
			t.Errorf("round %d: Check(%v) = %d, %d, want OK, 0", round, p, e, n)
		}
		p[0][2] = at(4, 0)
		if e, n := Check(p); e != api.ErrEdge || n != 1 {
			t.Errorf("round %d: Check(%v) = %d, %d, want ErrEdge, 1", round, p, e, n)
		}
	}
}

func TestMeetKeepsNothingP2(t *testing.T) {
	for round := range 3 {
		if m, e := Meet(at(0, 0), at(3, 1), at(0, 1), at(3, 0)); m != touch(3, 1, 2) || e != api.OK {
			t.Errorf("round %d: the crossing became %+v, %d", round, m, e)
		}
		if m, e := Meet(at(0, 0), at(4, 0), at(6, 0), at(2, 0)); m != along(2, 0, 4, 0) || e != api.OK {
			t.Errorf("round %d: the common part became %+v, %d", round, m, e)
		}
		if m, e := Meet(at(0, 0), at(0, 0), at(6, 0), at(2, 0)); m != (api.Meeting{}) || e != api.ErrEdge {
			t.Errorf("round %d: the refusal became %+v, %d", round, m, e)
		}
	}
}
