package overlay

import (
	"math"
	"slices"
	"testing"

	"overlay/api"
)

// wildPoints: of numbers at which sums, products and quotients might go wrong.
func wildPoints() []api.Point {
	numbers := []int{0, 1, -1, 64, -65, api.MaxDen, 1 << 32, math.MaxInt, math.MinInt}
	var out []api.Point
	for _, x := range numbers {
		for _, y := range []int{0, 1, math.MinInt} {
			for _, d := range numbers {
				out = append(out, api.Point{X: x, Y: y, D: d})
			}
		}
	}
	return out
}

func isGridPoint(p api.Point) bool {
	return p.D == 1 && p.X >= -64 && p.X <= 64 && p.Y >= -64 && p.Y <= 64
}

func isGoodPoint(p api.Point) bool {
	return p.D >= 1 && p.D <= 32768 && p.X >= -64*p.D && p.X <= 64*p.D && p.Y >= -64*p.D && p.Y <= 64*p.D
}

// wantMeetError: the error that stands first, told by the document's words alone.
func wantMeetError(a, b, c, d api.Point) api.Errno {
	if !isGridPoint(a) || !isGridPoint(b) || !isGridPoint(c) || !isGridPoint(d) {
		return api.ErrPoint
	}
	if a == b || c == d {
		return api.ErrEdge
	}
	return api.OK
}

func TestMeetAtAllNumbersP1(t *testing.T) {
	wild := wildPoints()
	for _, p := range wild {
		for _, q := range wild {
			for _, l := range [][4]api.Point{{p, q, at(0, 0), at(1, 1)}, {at(0, 0), at(1, 1), p, q}, {p, at(2, 2), q, at(3, 0)}} {
				m, e := Meet(l[0], l[1], l[2], l[3])
				if want := wantMeetError(l[0], l[1], l[2], l[3]); e != want {
					t.Fatalf("Meet(%v): error %d, want %d", l, e, want)
				}
				if e != api.OK && m != (api.Meeting{}) {
					t.Fatalf("Meet(%v) = %+v with error %d", l, m, e)
				}
			}
		}
	}
}

func TestCheckAtAllNumbersP1(t *testing.T) {
	for _, p := range wildPoints() {
		want, number := api.ErrPoint, 1
		if isGridPoint(p) {
			want, number = api.OK, 0
		}
		l := rings([]api.Point{at(-3, -7), p, at(9, 2)})
		if e, n := Check(l); e != want || n != number {
			t.Errorf("Check(%v) = %d, %d, want %d, %d", l, e, n, want, number)
		}
	}
}

func TestCheckAtAllListsP1(t *testing.T) {
	long := make([]api.Point, 1<<20)
	for count := range 7 {
		for _, r := range [][]api.Point{nil, {}, make([]api.Point, 1), make([]api.Point, 2), long} {
			l := slices.Repeat(rings(r), count)
			want := api.ErrCount
			if count == 0 {
				want = api.OK
			}
			if count > 4 {
				want = api.ErrRings
			}
			if e, n := Check(l); e != want || n != 0 {
				t.Errorf("Check of %d rings of %d points = %d, %d, want %d, 0", count, len(r), e, n, want)
			}
		}
	}
}

func TestLocateAtAllNumbersP1(t *testing.T) {
	for _, p := range wildPoints() {
		want := api.ErrPoint
		if isGoodPoint(p) {
			want = api.OK
		}
		for _, c := range []struct {
			p [][]api.Point
			q api.Point
		}{{rings(ring(-3, -7, 2, 9, 9, 2)), p}, {rings([]api.Point{at(-3, -7), p, at(9, 2)}), at(2, 2)}, {rings([]api.Point{p}), p}, {rings(nil, []api.Point{p, p}), at(0, 0)}} {
			n, e := Locate(c.p, c.q)
			if e != want || e != api.OK && n != 0 {
				t.Errorf("Locate(%v, %v) = %d, %d, want the error %d", c.p, c.q, n, e, want)
			}
		}
	}
}

func TestLocateAtAllListsP1(t *testing.T) {
	long := make([]api.Point, 1<<20)
	for _, count := range []int{0, 1, 2, 3, 1000, 100000} {
		for _, r := range [][]api.Point{nil, {}, {{}}, {at(0, 0)}, {at(0, 0), at(0, 0)}, long} {
			l := slices.Repeat(rings(r), count)
			where, want := 0, api.OK
			if count > 0 && len(r) > 0 {
				where, want = api.On, api.OK
				if r[0] != at(0, 0) {
					where, want = 0, api.ErrPoint
				}
				if count*len(r) > 2000 {
					where, want = 0, api.ErrCount
				}
			}
			if n, e := Locate(l, at(0, 0)); n != where || e != want {
				t.Errorf("Locate in %d rings of %d points = %d, %d, want %d, %d", count, len(r), n, e, where, want)
			}
		}
	}
}

func TestPiecesAtAllNumbersP1(t *testing.T) {
	good := rings(box(-4, -4, 4, 4))
	for _, p := range wildPoints() {
		want := api.ErrPoint
		if isGridPoint(p) {
			want = api.OK
		}
		l := rings([]api.Point{at(-3, -7), p, at(9, 2)})
		for _, c := range [][2][][]api.Point{{l, good}, {good, l}, {l, l}, {nil, l}} {
			pieces, e := Pieces(c[0], c[1])
			if e != want || (e == api.OK) != (len(pieces) > 0) || e != api.OK && pieces != nil {
				t.Errorf("Pieces(%v, %v) = %v, %d, want the error %d", c[0], c[1], pieces, e, want)
			}
		}
	}
}

func TestPiecesAtAllListsP1(t *testing.T) {
	long := make([]api.Point, 1<<20)
	for count := range 7 {
		for _, r := range [][]api.Point{nil, {}, make([]api.Point, 1), make([]api.Point, 2), long} {
			l := slices.Repeat(rings(r), count)
			want, _ := Check(l)
			for _, c := range [][2][][]api.Point{{l, nil}, {nil, l}, {l, l}} {
				if pieces, e := Pieces(c[0], c[1]); e != want || pieces != nil && e != api.OK || len(pieces) > 0 {
					t.Errorf("Pieces of %d rings of %d points = %v, %d, want the error %d", count, len(r), pieces, e, want)
				}
			}
		}
	}
}

func TestClipAndNestAtAllNumbersP1(t *testing.T) {
	good := rings(box(-4, -4, 4, 4))
	for _, p := range wildPoints() {
		l := rings([]api.Point{at(-3, -7), p, at(9, 2)})
		for _, op := range []int{math.MinInt, -1, 0, 1, 2, 3, 4, 5, math.MaxInt} {
			want := api.OK
			if !isGridPoint(p) {
				want = api.ErrPoint
			}
			if op < 0 || op > 4 {
				want = api.ErrOp
			}
			for _, c := range [][2][][]api.Point{{l, good}, {good, l}, {l, l}, {nil, l}} {
				got, e := Clip(op, c[0], c[1])
				if e != want || e != api.OK && got != nil {
					t.Errorf("Clip(%d, %v, %v) = %v, %d, want the error %d", op, c[0], c[1], got, e, want)
				}
				shells, e := Nest(op, c[0], c[1])
				if e != want || e != api.OK && shells != nil || len(shells) != len(got) {
					t.Errorf("Nest(%d, %v, %v) = %v, %d, want the error %d, and a number for each of %v", op, c[0], c[1], shells, e, want, got)
				}
			}
		}
	}
}

func TestClipAndNestAtAllListsP1(t *testing.T) {
	long := make([]api.Point, 1<<20)
	for count := range 7 {
		for _, r := range [][]api.Point{nil, {}, make([]api.Point, 1), make([]api.Point, 2), long} {
			l := slices.Repeat(rings(r), count)
			want, _ := Check(l)
			for op := range 5 {
				for _, c := range [][2][][]api.Point{{l, nil}, {nil, l}, {l, l}} {
					if got, e := Clip(op, c[0], c[1]); e != want || got != nil && e != api.OK || len(got) > 0 {
						t.Errorf("Clip(%d, ..) of %d rings of %d points = %v, %d, want the error %d", op, count, len(r), got, e, want)
					}
					if got, e := Nest(op, c[0], c[1]); e != want || got != nil && e != api.OK || len(got) > 0 {
						t.Errorf("Nest(%d, ..) of %d rings of %d points = %v, %d, want the error %d", op, count, len(r), got, e, want)
					}
				}
			}
		}
	}
}

// roomy gives p again, laid out so that its lists have spare room with marks in it; then the list in which its rings lie, and the list whose beginning it is.
func roomy(p [][]api.Point) ([][]api.Point, []api.Point, [][]api.Point) {
	mark := api.Point{X: 11, Y: 22, D: 33}
	flat := make([]api.Point, 0, 200)
	spare := [][]api.Point{}
	for _, r := range p {
		flat = append(flat, mark)
		begin := len(flat)
		flat = append(flat, r...)
		spare = append(spare, flat[begin:])
		flat = append(flat, mark, mark)
	}
	count := len(spare)
	spare = append(spare, []api.Point{mark}, []api.Point{mark, mark})
	return spare[:count], flat, spare
}

func copyPolygon(p [][]api.Point) [][]api.Point {
	var out [][]api.Point
	for _, r := range p {
		out = append(out, slices.Clone(r))
	}
	return out
}

func samePolygon(p, q [][]api.Point) bool { return slices.EqualFunc(p, q, slices.Equal[[]api.Point]) }

func TestCheckLeavesItsArgumentP2(t *testing.T) {
	for _, p := range [][][]api.Point{
		rings(ring(0, 0, 4, 0, 4, 4, 0, 4), ring(9, 9, 12, 9, 9, 12)),
		rings(ring(0, 0, 4, 0, 0, 4), ring(0, 0, 65, 0, 0, 4)),
		rings(ring(0, 0, 4, 0, 0, 4), ring(9, 9, 9, 9, 0, 4)),
		rings(ring(0, 0, 4, 0, 0, 4), ring(2, 0, 6, 0, 2, -4)),
		rings(ring(0, 0, 4, 0, 0, 4), ring(2, 0)),
		rings(ring(0, 0, 1, 0, 0, 1), nil, nil, nil, nil),
	} {
		l, flat, spare := roomy(p)
		flatBefore := slices.Clone(flat)
		spareBefore := copyPolygon(spare)
		wantE, wantN := Check(p)
		e, n := Check(l)
		if e != wantE || n != wantN {
			t.Errorf("Check(%v) = %d, %d, then %d, %d", p, wantE, wantN, e, n)
		}
		if !slices.Equal(flat, flatBefore) || !samePolygon(spare, spareBefore) {
			t.Errorf("Check(%v) wrote into what it was handed", p)
		}
	}
}

func TestCheckKeepsNothingP2(t *testing.T) {
	p := rings(ring(0, 0, 4, 0, 4, 4, 0, 4))
	for round := range 3 {
		p[0][2] = at(4, 4)
		if e, n := Check(p); e != api.OK || n != 0 {
			t.Errorf("round %d: Check(%v) = %d, %d, want OK, 0", round, p, e, n)
		}
		p[0][2] = at(4, 0)
		if e, n := Check(p); e != api.ErrEdge || n != 1 {
			t.Errorf("round %d: Check(%v) = %d, %d, want ErrEdge, 1", round, p, e, n)
		}
	}
}

func TestMeetKeepsNothingP2(t *testing.T) {
	for round := range 3 {
		if m, e := Meet(at(0, 0), at(3, 1), at(0, 1), at(3, 0)); m != touch(3, 1, 2) || e != api.OK {
			t.Errorf("round %d: the crossing became %+v, %d", round, m, e)
		}
		if m, e := Meet(at(0, 0), at(4, 0), at(6, 0), at(2, 0)); m != along(2, 0, 4, 0) || e != api.OK {
			t.Errorf("round %d: the common part became %+v, %d", round, m, e)
		}
		if m, e := Meet(at(0, 0), at(0, 0), at(6, 0), at(2, 0)); m != (api.Meeting{}) || e != api.ErrEdge {
			t.Errorf("round %d: the refusal became %+v, %d", round, m, e)
		}
	}
}

// witness: a polygon laid out with spare room, and what it was before.
type witness struct {
	p      [][]api.Point
	flat   []api.Point
	spare  [][]api.Point
	before [][]api.Point
	marks  []api.Point
}

func watch(p [][]api.Point) witness {
	l, flat, spare := roomy(p)
	return witness{p: l, flat: flat[:cap(flat)], spare: spare, before: copyPolygon(spare), marks: slices.Clone(flat[:cap(flat)])}
}

func (w witness) isChanged() bool {
	return !slices.Equal(w.flat, w.marks) || !samePolygon(w.spare, w.before)
}

// somePolygons: some that Check takes, and some that it does not.
func somePolygons() [][][]api.Point {
	return append(faults(), nil, rings(box(0, 0, 4, 4)), rings(box(2, 2, 6, 6), ring(0, 1, 3, 0, 7, 9)), rings(ring(0, 0, 4, 4, 4, 0, 0, 4)), rings(ring(0, 0, 3, 0, 0, 3)))
}

func TestLocateLeavesItsArgumentP2(t *testing.T) {
	for _, p := range somePolygons() {
		for _, q := range []api.Point{at(1, 2), over(1, 1, 2), at(2, 2), at(40, 40), {}} {
			wantN, wantE := Locate(p, q)
			w := watch(p)
			n, e := Locate(w.p, q)
			if n != wantN || e != wantE {
				t.Errorf("Locate(%v, %v) = %d, %d, then %d, %d", p, q, wantN, wantE, n, e)
			}
			if w.isChanged() {
				t.Errorf("Locate(%v, %v) wrote into what it was handed", p, q)
			}
		}
	}
}

func TestLocateKeepsNothingP2(t *testing.T) {
	p := rings(ring(0, 0, 4, 0, 0, 4))
	for round := range 3 {
		for _, c := range []struct {
			corner api.Point
			want   int
		}{{at(0, 4), api.In}, {at(2, 2), api.On}, {at(0, -4), api.Out}} {
			p[0][2] = c.corner
			if n, e := Locate(p, at(1, 1)); n != c.want || e != api.OK {
				t.Errorf("round %d: Locate(%v, ..) = %d, %d, want %d", round, p, n, e, c.want)
			}
		}
	}
}

func TestPiecesLeavesItsArgumentsP2(t *testing.T) {
	for _, a := range somePolygons() {
		for _, b := range somePolygons() {
			want, wantE := Pieces(a, b)
			v, w := watch(a), watch(b)
			l, e := Pieces(v.p, w.p)
			if !slices.Equal(l, want) || e != wantE {
				t.Errorf("Pieces(%v, %v) = %v, %d, then %v, %d", a, b, want, wantE, l, e)
			}
			if v.isChanged() || w.isChanged() {
				t.Errorf("Pieces(%v, %v) wrote into what it was handed", a, b)
			}
			// The same lists twice, too.
			twice, _ := Pieces(v.p, v.p)
			if v.isChanged() {
				t.Errorf("Pieces of %v and itself wrote into it: %v", a, twice)
			}
		}
	}
}

func TestPiecesComeFreshP2(t *testing.T) {
	a, b := rings(box(0, 0, 4, 4)), rings(box(2, 2, 6, 6))
	first, _ := Pieces(a, b)
	want := slices.Clone(first)
	second, _ := Pieces(a, b)
	first = first[:cap(first)]
	for i := range first {
		first[i] = api.Piece{P: at(7, 7), LeftB: true}
	}
	third, e := Pieces(a, b)
	if !slices.Equal(second, want) || !slices.Equal(third, want) || e != api.OK {
		t.Errorf("when the first pieces were written into, the second became %v, the third %v, %d", second, third, e)
	}
	if !samePolygon(a, rings(box(0, 0, 4, 4))) || !samePolygon(b, rings(box(2, 2, 6, 6))) {
		t.Errorf("writing into the pieces changed the polygons: %v, %v", a, b)
	}
}

func TestClipLeavesItsArgumentsP2(t *testing.T) {
	for _, a := range somePolygons() {
		for _, b := range somePolygons() {
			for op := -1; op <= 5; op++ {
				want, wantE := Clip(op, a, b)
				v, w := watch(a), watch(b)
				l, e := Clip(op, v.p, w.p)
				if !samePolygon(l, want) || e != wantE {
					t.Errorf("Clip(%d, %v, %v) = %v, %d, then %v, %d", op, a, b, want, wantE, l, e)
				}
				// Nothing of what came out lies in what was handed in.
				scribble(l)
				if v.isChanged() || w.isChanged() {
					t.Errorf("Clip(%d, %v, %v) wrote into what it was handed, or answered with it", op, a, b)
				}
				// The same lists twice, too.
				twice, _ := Clip(op, v.p, v.p)
				scribble(twice)
				if v.isChanged() {
					t.Errorf("Clip(%d, ..) of %v and itself wrote into it, or answered with it", op, a)
				}
			}
		}
	}
}

// scribble writes into all lists and into their spare room.
func scribble(l [][]api.Point) {
	for _, r := range l {
		r = r[:cap(r)]
		for i := range r {
			r[i] = api.Point{X: 44, Y: 55, D: 66}
		}
	}
	l = l[:cap(l)]
	for i := range l {
		l[i] = []api.Point{at(7, 7)}
	}
}

func TestClipComesFreshP2(t *testing.T) {
	a, b := rings(box(0, 0, 9, 9), box(3, 3, 6, 6)), rings(box(1, 1, 8, 8), box(4, 4, 5, 5))
	for op := range 5 {
		first, _ := Clip(op, a, b)
		want := copyPolygon(first)
		second, _ := Clip(op, a, b)
		scribble(first)
		third, e := Clip(op, a, b)
		if !samePolygon(second, want) || !samePolygon(third, want) || e != api.OK {
			t.Errorf("when the first rings of operation %d were written into, the second became %v, the third %v, %d", op, second, third, e)
		}
	}
}

// TestClipSharesNoRoomP2: each ring is written into, with its spare room, while the others must stay.
func TestClipSharesNoRoomP2(t *testing.T) {
	a, b := rings(ring(0, 0, 9, 9, 9, 5, 0, 7, 1, 3)), rings(box(1, 1, 8, 8), ring(-2, 4, 5, 9, 4, -3))
	for op := range 5 {
		l, _ := Clip(op, a, b)
		if len(l) < 2 {
			t.Fatalf("operation %d has few rings: %v", op, l)
		}
		for i := range l {
			// A fresh answer each time, so that each ring is the first to be written into.
			l, _ := Clip(op, a, b)
			want := copyPolygon(l)
			scribble(l[i : i+1 : i+1])
			l[i] = want[i]
			if !samePolygon(l, want) {
				t.Errorf("operation %d: writing into ring %d made of %v %v", op, i, want, l)
			}
		}
	}
}

func TestClipKeepsNothingP2(t *testing.T) {
	a, b := rings(ring(0, 0, 4, 0, 0, 4)), rings(ring(0, 0, 4, 0, 0, 4))
	for round := range 3 {
		for _, c := range []struct {
			op     int
			corner api.Point
			want   [][]api.Point
		}{
			{api.And, at(4, 4), rings(ring(0, 0, 4, 0, 2, 2))}, {api.Or, at(4, 4), rings(ring(0, 0, 4, 0, 4, 4, 2, 2, 0, 4))}, {api.Minus, at(0, 4), nil},
			{api.Minus, at(4, 4), rings(ring(0, 0, 2, 2, 0, 4))}, {api.Back, at(4, 4), rings(ring(2, 2, 4, 0, 4, 4))}, {api.And, at(0, -4), nil},
		} {
			b[0][2] = c.corner
			if l, e := Clip(c.op, a, b); !samePolygon(l, c.want) || e != api.OK {
				t.Errorf("round %d: Clip(%d, %v, %v) = %v, %d, want %v", round, c.op, a, b, l, e, c.want)
			}
			if l, e := Clip(5, a, b); l != nil || e != api.ErrOp {
				t.Errorf("round %d: the refusal became %v, %d", round, l, e)
			}
		}
	}
}

func TestNestLeavesItsArgumentsP2(t *testing.T) {
	hollow := rings(box(0, 0, 9, 9), box(1, 1, 8, 8), box(2, 2, 7, 7))
	for _, a := range append(somePolygons(), hollow) {
		for _, b := range append(somePolygons(), hollow) {
			for op := -1; op <= 5; op++ {
				want, wantE := Nest(op, a, b)
				v, w := watch(a), watch(b)
				l, e := Nest(op, v.p, w.p)
				if !slices.Equal(l, want) || e != wantE {
					t.Errorf("Nest(%d, %v, %v) = %v, %d, then %v, %d", op, a, b, want, wantE, l, e)
				}
				if v.isChanged() || w.isChanged() {
					t.Errorf("Nest(%d, %v, %v) wrote into what it was handed", op, a, b)
				}
				// The same lists twice, too.
				twice, _ := Nest(op, v.p, v.p)
				if v.isChanged() {
					t.Errorf("Nest(%d, ..) of %v and itself wrote into it: %v", op, a, twice)
				}
			}
		}
	}
}

func TestNestComesFreshP2(t *testing.T) {
	a, b := rings(box(0, 0, 9, 9), box(3, 3, 6, 6)), rings(box(1, 1, 8, 8), box(4, 4, 5, 5))
	for op := range 5 {
		first, _ := Nest(op, a, b)
		want := slices.Clone(first)
		second, _ := Nest(op, a, b)
		first = first[:cap(first)]
		for i := range first {
			first[i] = 77
		}
		third, e := Nest(op, a, b)
		if !slices.Equal(second, want) || !slices.Equal(third, want) || e != api.OK {
			t.Errorf("when the first numbers of operation %d were written into, the second became %v, the third %v, %d", op, second, third, e)
		}
	}
}

func TestNestKeepsNothingP2(t *testing.T) {
	a, b := rings(box(0, 0, 9, 9)), rings(box(2, 2, 4, 4))
	for round := range 3 {
		for _, c := range []struct {
			op     int
			corner api.Point
			want   []int
		}{
			{api.Minus, at(4, 4), []int{-1, 0}}, {api.Minus, at(4, 40), []int{-1}}, {api.And, at(4, 4), []int{-1}}, {api.Xor, at(4, 40), []int{-1, -1}}, {api.Back, at(4, 4), nil},
		} {
			b[0][2] = c.corner
			if l, e := Nest(c.op, a, b); !slices.Equal(l, c.want) || e != api.OK {
				t.Errorf("round %d: Nest(%d, %v, %v) = %v, %d, want %v", round, c.op, a, b, l, e, c.want)
			}
			if l, e := Nest(5, a, b); l != nil || e != api.ErrOp {
				t.Errorf("round %d: the refusal became %v, %d", round, l, e)
			}
		}
	}
}
