package overlay

import (
	"math"
	"math/big"
	"slices"
	"testing"

	"overlay/api"
)

type clipCase struct {
	name string
	op   int
	a, b [][]api.Point
	want [][]api.Point
}

func runClips(t *testing.T, cases []clipCase) {
	t.Helper()
	for _, c := range cases {
		if l, e := Clip(c.op, c.a, c.b); !samePolygon(l, c.want) || e != api.OK {
			t.Errorf("%s: Clip(%d, %v, %v) = %v, %d, want %v", c.name, c.op, c.a, c.b, l, e, c.want)
		}
	}
}

func TestClipOfTheDocumentP7(t *testing.T) {
	a, b := rings(box(0, 0, 4, 4)), rings(box(2, 2, 6, 6))
	lower, upper := ring(0, 0, 4, 0, 4, 2, 2, 2, 2, 4, 0, 4), ring(2, 4, 4, 4, 4, 2, 6, 2, 6, 6, 2, 6)
	beside := rings(box(0, 0, 2, 2))
	runClips(t, []clipCase{
		{"boxes", api.And, a, b, rings(ring(2, 2, 4, 2, 4, 4, 2, 4))},
		{"boxes", api.Or, a, b, rings(ring(0, 0, 4, 0, 4, 2, 6, 2, 6, 6, 2, 6, 2, 4, 0, 4))},
		{"boxes", api.Minus, a, b, rings(lower)},
		{"boxes", api.Back, a, b, rings(upper)},
		{"boxes", api.Xor, a, b, rings(lower, upper)},
		{"a hole", api.Minus, rings(box(0, 0, 6, 6)), rings(box(2, 2, 4, 4)), rings(ring(0, 0, 6, 0, 6, 6, 0, 6), ring(2, 2, 2, 4, 4, 4, 4, 2))},
		{"touches in a corner", api.Minus, a, rings(ring(0, 0, 2, 1, 1, 2)), rings(ring(0, 0, 1, 2, 2, 1, 0, 0, 4, 0, 4, 4, 0, 4))},
		{"an edge in common", api.Or, beside, rings(box(2, 0, 4, 2)), rings(ring(0, 0, 4, 0, 4, 2, 0, 2))},
		{"an edge in common", api.And, beside, rings(box(2, 0, 4, 2)), nil},
		{"touch in a corner", api.Or, beside, rings(box(2, 2, 4, 4)), rings(box(0, 0, 2, 2), box(2, 2, 4, 4))},
		{"box in box in box in box", api.Xor, rings(box(0, 0, 9, 9), box(3, 3, 6, 6)), rings(box(1, 1, 8, 8), box(4, 4, 5, 5)), rings(
			ring(0, 0, 9, 0, 9, 9, 0, 9), ring(1, 1, 1, 8, 8, 8, 8, 1), ring(3, 3, 6, 3, 6, 6, 3, 6), ring(4, 4, 4, 5, 5, 5, 5, 4))},
		{"off the grid", api.And, rings(ring(0, 0, 3, 0, 0, 3)), rings(ring(0, 0, 3, 3, 0, 3)), rings([]api.Point{at(0, 0), over(3, 3, 2), at(0, 3)})},
		{"crosses itself", api.Or, rings(ring(0, 0, 4, 4, 4, 0, 0, 4)), nil, rings(ring(0, 0, 2, 2, 0, 4), ring(2, 2, 4, 0, 4, 4))},
	})
}

func TestClipWithNothingP7(t *testing.T) {
	a := rings(box(0, 0, 4, 4))
	far := rings(box(10, -3, 12, 9))
	runClips(t, []clipCase{
		{"nothing and nothing", api.And, nil, nil, nil}, {"nothing or nothing", api.Or, nil, rings(), nil}, {"nothing just in one", api.Xor, rings(), nil, nil},
		{"with nothing", api.And, a, nil, nil}, {"with nothing", api.Or, a, nil, a}, {"with nothing", api.Minus, a, nil, a}, {"with nothing", api.Back, a, nil, nil}, {"with nothing", api.Xor, a, nil, a},
		{"nothing with", api.And, nil, a, nil}, {"nothing with", api.Or, nil, a, a}, {"nothing with", api.Minus, nil, a, nil}, {"nothing with", api.Back, nil, a, a}, {"nothing with", api.Xor, nil, a, a},
		{"with itself", api.And, a, a, a}, {"with itself", api.Or, a, a, a}, {"with itself", api.Minus, a, a, nil}, {"with itself", api.Back, a, a, nil}, {"with itself", api.Xor, a, a, nil},
		{"far apart", api.And, far, a, nil}, {"far apart", api.Or, far, a, rings(a[0], far[0])}, {"far apart", api.Minus, far, a, far}, {"far apart", api.Back, far, a, a}, {"far apart", api.Xor, far, a, rings(a[0], far[0])},
	})
}

func TestClipWritesRingsP7(t *testing.T) {
	wide := rings(box(0, 0, 8, 8))
	straight := ring(0, 0, 1, 0, 2, 0, 2, 2, 0, 2, 0, 1)
	runClips(t, []clipCase{
		{"the other way round", api.Or, rings(ring(4, 4, 4, 0, 0, 0, 0, 4)), nil, rings(box(0, 0, 4, 4))},
		{"points at which it goes straight on", api.Or, rings(straight), nil, rings(box(0, 0, 2, 2))},
		{"a corner of the other on which it goes straight on", api.Or, rings(box(0, 0, 4, 2)), rings(ring(2, 2, 3, 4, 1, 4)), rings(box(0, 0, 4, 2), ring(1, 4, 2, 2, 3, 4))},
		{"a corner of a hole on an edge", api.Minus, rings(box(0, 0, 4, 4)), rings(ring(2, 0, 3, 2, 1, 2)), rings(ring(0, 0, 2, 0, 1, 2, 3, 2, 2, 0, 4, 0, 4, 4, 0, 4))},
		{"from the lower of two places of one x", api.Or, rings(ring(0, 4, 4, 4, 4, 0, 0, 0)), nil, rings(ring(0, 0, 4, 0, 4, 4, 0, 4))},
		{"through its least place twice, the lower way first", api.Minus, rings(ring(0, 4, 8, 0, 8, 8)), rings(ring(0, 4, 4, 3, 4, 5)), rings(ring(0, 4, 4, 5, 4, 3, 0, 4, 8, 0, 8, 8))},
		{"two rings from one place", api.Or, rings(ring(0, 4, 8, 0, 8, 3)), rings(ring(0, 4, 8, 5, 8, 8)), rings(ring(0, 4, 8, 0, 8, 3), ring(0, 4, 8, 5, 8, 8))},
		{"two rings from one place, the other way", api.Xor, rings(ring(0, 4, 8, 5, 8, 8)), rings(ring(0, 4, 8, 0, 8, 3)), rings(ring(0, 4, 8, 0, 8, 3), ring(0, 4, 8, 5, 8, 8))},
		{"a hole of two triangles that touch", api.Minus, rings(box(0, 0, 6, 4)), rings(ring(1, 1, 3, 2, 1, 3), ring(5, 1, 5, 3, 3, 2)), rings(box(0, 0, 6, 4), ring(1, 1, 1, 3, 3, 2, 5, 3, 5, 1, 3, 2))},
		{"a hole that touches in two corners cuts in two", api.Minus, wide, rings(ring(0, 0, 6, 4, 8, 8, 4, 6)), rings(ring(0, 0, 4, 6, 8, 8, 0, 8), ring(0, 0, 8, 0, 8, 8, 6, 4))},
		{"a hole of a polygon's own, filled", api.Or, rings(box(0, 0, 8, 8), box(2, 2, 4, 4)), rings(box(2, 2, 4, 4)), wide},
		{"a hole of a polygon's own, narrowed", api.Or, rings(box(0, 0, 8, 8), box(2, 2, 6, 6)), rings(box(1, 1, 4, 7)), rings(wide[0], ring(4, 2, 4, 6, 6, 6, 6, 2))},
		{"four that touch in one spot", api.Xor, rings(box(0, 0, 4, 4), box(4, 4, 8, 8)), rings(ring(4, 4, 8, 3, 8, 0), ring(4, 4, 0, 5, 0, 8)), rings(
			box(0, 0, 4, 4), ring(0, 5, 4, 4, 0, 8), ring(4, 4, 8, 0, 8, 3), box(4, 4, 8, 8))},
	})
}

func TestClipLaysEdgesAlongP7(t *testing.T) {
	runClips(t, []clipCase{
		{"a part of an edge in common", api.Or, rings(box(0, 0, 2, 2)), rings(box(2, 1, 4, 3)), rings(ring(0, 0, 2, 0, 2, 1, 4, 1, 4, 3, 2, 3, 2, 2, 0, 2))},
		{"a corner cut off", api.Minus, rings(box(0, 0, 4, 4)), rings(ring(0, 0, 4, 0, 0, 4)), rings(ring(0, 4, 4, 0, 4, 4))},
		{"an edge in common, one in the other", api.And, rings(box(0, 0, 4, 4)), rings(box(1, 0, 3, 2)), rings(box(1, 0, 3, 2))},
		{"an edge in common, one in the other", api.Xor, rings(box(0, 0, 4, 4)), rings(box(1, 0, 3, 2)), rings(ring(0, 0, 1, 0, 1, 2, 3, 2, 3, 0, 4, 0, 4, 4, 0, 4))},
		{"as wide as the other", api.Minus, rings(box(0, 0, 4, 4)), rings(box(0, 1, 4, 3)), rings(box(0, 0, 4, 1), box(0, 3, 4, 4))},
		{"slanted", api.Or, rings(ring(0, 0, 6, 3, 0, 3)), rings(ring(2, 1, 8, 4, 8, 1)), rings([]api.Point{at(0, 0), at(2, 1), at(8, 1), at(8, 4), at(6, 3), at(0, 3)})},
		{"slanted, closed up", api.Xor, rings(ring(0, 0, 6, 3, 0, 3)), rings(ring(0, 0, 6, 3, 6, 0)), rings(box(0, 0, 6, 3))},
		{"at the rim", api.Minus, rings(box(-64, -64, 64, 64)), rings(ring(-64, -64, 64, 64, 64, -64)), rings(ring(-64, -64, 64, 64, -64, 64))},
		{"at the rim, across", api.And, rings(ring(-64, -64, 64, 63, 64, 64)), rings(ring(-64, 64, 64, -64, 63, -64)), rings([]api.Point{over(-64, -64, 255), over(-64, -16320, 32513), over(64, -64, 255), at(0, 0)})},
	})
}

// inResult: by the document's words on the operations.
func inResult(op int, inA, inB bool) bool {
	return [5]bool{api.And: inA && inB, api.Or: inA || inB, api.Minus: inA && !inB, api.Back: inB && !inA, api.Xor: inA != inB}[op]
}

// arrow: a border, the way it goes.
type arrow struct{ from, to api.Point }

// bearing: which way it is from p to q, as a number from 0 up to 4 that grows as one turns to the left from due east.
func bearing(p, q api.Point) *big.Rat {
	gap := func(m, n, k, l int) *big.Rat {
		out := big.NewRat(int64(m), int64(n))
		return out.Sub(out, big.NewRat(int64(k), int64(l)))
	}
	x, y := gap(q.X, q.D, p.X, p.D), gap(q.Y, q.D, p.Y, p.D)
	north := y.Sign() >= 0
	all := new(big.Rat).Abs(x)
	all.Add(all, y.Abs(y))
	x.Quo(x, all)
	if north {
		return x.Sub(big.NewRat(1, 1), x)
	}
	return x.Add(big.NewRat(3, 1), x)
}

// plainNext: which of those that begin where x ends comes behind it.
func plainNext(x arrow, begin []arrow) arrow {
	back := bearing(x.to, x.from)
	turned := func(y arrow) *big.Rat {
		out := bearing(y.from, y.to)
		out.Sub(back, out)
		if out.Sign() <= 0 {
			out.Add(out, big.NewRat(4, 1))
		}
		return out
	}
	return slices.MinFunc(begin, func(y, z arrow) int { return turned(y).Cmp(turned(z)) })
}

func compareLists(l, m []api.Point) int { return slices.CompareFunc(l, m, compare) }

// written: the points of the ring that these borders make.
func written(loop []arrow) []api.Point {
	var points []api.Point
	for i, x := range loop {
		next := loop[(i+1)%len(loop)]
		if bearing(x.from, x.to).Cmp(bearing(next.from, next.to)) != 0 {
			points = append(points, x.to)
		}
	}
	var all [][]api.Point
	for i := range points {
		all = append(all, slices.Concat(points[i:], points[:i]))
	}
	return slices.MinFunc(all, compareLists)
}

// plainRings answers as Clip should, by the document's words, from the pieces of two polygons.
func plainRings(op int, pieces []api.Piece) [][]api.Point {
	var borders []arrow
	begin := map[api.Point][]arrow{}
	for _, x := range pieces {
		left, right := inResult(op, x.LeftA, x.LeftB), inResult(op, x.RightA, x.RightB)
		if left == right {
			continue
		}
		border := arrow{x.P, x.Q}
		if right {
			border = arrow{x.Q, x.P}
		}
		borders = append(borders, border)
		begin[border.from] = append(begin[border.from], border)
	}
	var out [][]api.Point
	seen := map[arrow]bool{}
	for _, first := range borders {
		var loop []arrow
		for x := first; !seen[x]; x = plainNext(x, begin[x.to]) {
			seen[x] = true
			loop = append(loop, x)
		}
		if len(loop) > 0 {
			out = append(out, written(loop))
		}
	}
	slices.SortFunc(out, compareLists)
	return out
}

// harvest: how often what is rare came in the rings.
type harvest struct{ none, many, offGrid, again, leastAgain, sameLeast, right int }

func (n *harvest) add(l [][]api.Point) {
	if len(l) == 0 {
		n.none++
	}
	if len(l) > 2 {
		n.many++
	}
	for i, r := range l {
		places := map[api.Point]int{}
		for _, p := range r {
			places[p]++
			if p.D > 1 {
				n.offGrid++
			}
		}
		if len(places) < len(r) {
			n.again++
		}
		if places[r[0]] > 1 {
			n.leastAgain++
		}
		if i > 0 && l[i-1][0] == r[0] {
			n.sameLeast++
		}
		if turn(r[len(r)-1], r[0], r[1]) < 0 {
			n.right++
		}
	}
}

func compareClips(t *testing.T, seen *harvest, a, b [][]api.Point) {
	t.Helper()
	pieces := plainPieces(a, b)
	for op := range 5 {
		l, e := Clip(op, a, b)
		if want := plainRings(op, pieces); !samePolygon(l, want) || e != api.OK {
			t.Errorf("Clip(%d, %v, %v) = %v, %d, want %v", op, a, b, l, e, want)
		}
		seen.add(l)
	}
}

func TestClipOnSmallGridP7(t *testing.T) {
	var thrown dice
	var seen harvest
	shapes := [][]int{{3}, {4}, {5}, {3, 3}, {6}, {4, 3}}
	for i := range 1200 {
		a := throwChecked(t, &thrown, 2, shapes[i%6]...)
		b := throwChecked(t, &thrown, 2, shapes[i/6%6]...)
		compareClips(t, &seen, a, b)
	}
	if min(seen.none, seen.many, seen.offGrid, seen.again, seen.sameLeast, seen.right) < 50 || seen.leastAgain < 10 {
		t.Errorf("too little of what is rare came: %+v", seen)
	}
}

func TestClipOnWholeGridP7(t *testing.T) {
	var thrown dice
	var seen harvest
	for _, lengths := range [][]int{{12}, {3, 3, 3, 3}, {7, 5}, {4, 8}, {3}, {9, 3}} {
		a := throwChecked(t, &thrown, 64, lengths...)
		b := throwChecked(t, &thrown, 64, 12)
		compareClips(t, &seen, a, b)
		compareClips(t, &seen, a, a)
	}
	if seen.offGrid < 1000 {
		t.Errorf("too few points off the grid came: %+v", seen)
	}
}

func TestClipOfStarsP7(t *testing.T) {
	var seen harvest
	compareClips(t, &seen, rings(star(11, 0)), rings(star(11, 1)))
	compareClips(t, &seen, rings(star(11, 0)), rings(star(9, 2)))
	// Many edges through one spot.
	compareClips(t, &seen, rings(ring(0, 0, 9, 9, 9, 5, 0, 0, -9, 9, -5, 9, 0, 0, -9, -9, -9, -5)), rings(ring(9, 0, -9, 0, 0, 9, 0, -9), ring(0, 0, 9, -9, 5, -9)))
}

// TestClipIsWhereTheResultIsP7: places on no edge, by the edges between them and a place far away.
func TestClipIsWhereTheResultIsP7(t *testing.T) {
	var thrown dice
	var seen [5][2]int
	for range 120 {
		a, b := throwChecked(t, &thrown, 4, 5), throwChecked(t, &thrown, 4, 3, 4)
		for op := range 5 {
			l, _ := Clip(op, a, b)
			for range 10 {
				q := thrown.rough(5, 60)
				inA, inB := plainLocate(a, q), plainLocate(b, q)
				if inA == api.On || inB == api.On {
					continue
				}
				want := api.Out
				if inResult(op, inA == api.In, inB == api.In) {
					want = api.In
				}
				seen[op][want]++
				if got := plainLocate(l, q); got != want {
					t.Errorf("Clip(%d, %v, %v) = %v: %v is %d there, want %d", op, a, b, l, q, got, want)
				}
			}
		}
	}
	for op, n := range seen {
		if min(n[api.Out], n[api.In]) < 30 {
			t.Errorf("by operation %d, only %v places were out and in", op, n)
		}
	}
}

// otherwise: the same polygon, its rings in another order, from another point on and the other way round.
func otherwise(p [][]api.Point) [][]api.Point {
	out := copyPolygon(p)
	slices.Reverse(out)
	for i, r := range out {
		slices.Reverse(r)
		out[i] = slices.Concat(r[1:], r[:1])
	}
	return out
}

func TestClipOfPolygonsGivenOtherwiseP7(t *testing.T) {
	var thrown dice
	swapped := [5]int{api.And: api.And, api.Or: api.Or, api.Minus: api.Back, api.Back: api.Minus, api.Xor: api.Xor}
	for range 300 {
		a, b := throwChecked(t, &thrown, 3, 4, 3), throwChecked(t, &thrown, 3, 3, 3)
		for op := range 5 {
			want, _ := Clip(op, a, b)
			if l, e := Clip(op, otherwise(a), otherwise(b)); !samePolygon(l, want) || e != api.OK {
				t.Errorf("Clip(%d, %v, %v) = %v, of the same otherwise %v, %d", op, a, b, want, l, e)
			}
			if l, e := Clip(swapped[op], b, a); !samePolygon(l, want) || e != api.OK {
				t.Errorf("Clip(%d, %v, %v) = %v, swapped %v, %d", op, a, b, want, l, e)
			}
		}
	}
}

// TestClipOfWhatCameOutP7: a result that may be laid over nothing comes again as it is.
func TestClipOfWhatCameOutP7(t *testing.T) {
	var thrown dice
	count := 0
	for range 1000 {
		a, b := throwChecked(t, &thrown, 3, 4), throwChecked(t, &thrown, 3, 3)
		for op := range 5 {
			once, _ := Clip(op, a, b)
			if e, _ := Check(once); e != api.OK || len(once) == 0 {
				continue
			}
			count++
			if twice, e := Clip(api.Or, once, nil); !samePolygon(once, twice) || e != api.OK {
				t.Errorf("%v became %v, %d", once, twice, e)
			}
		}
	}
	if count < 300 {
		t.Errorf("only %d results could be laid over nothing", count)
	}
}

func TestClipComesGoodP7(t *testing.T) {
	var thrown dice
	for range 10 {
		a, b := throwChecked(t, &thrown, 64, 6, 6), throwChecked(t, &thrown, 64, 4, 8)
		for op := range 5 {
			l, _ := Clip(op, a, b)
			for _, p := range slices.Concat(l...) {
				if !isGoodPoint(p) || !inLeastTerms(p) {
					t.Errorf("Clip(%d, %v, %v) has %+v", op, a, b, p)
				}
			}
		}
	}
}

// refusal: what Clip and Nest have to refuse, and with which error.
type refusal struct {
	op   int
	a, b [][]api.Point
	want api.Errno
}

// badOps: with polygons that may be laid over another, and with such as may not.
func badOps() []refusal {
	good := rings(box(0, 0, 4, 4))
	var out []refusal
	for _, op := range []int{-1, 5, 6, 1 << 8, 1 << 32, -1 << 32, math.MaxInt, math.MinInt, math.MinInt + 4} {
		out = append(out, refusal{op, good, good, api.ErrOp}, refusal{op, nil, nil, api.ErrOp})
		for _, bad := range faults() {
			out = append(out, refusal{op, bad, good, api.ErrOp}, refusal{op, good, bad, api.ErrOp})
		}
	}
	return out
}

// badPolygons: the one, the other and both.
func badPolygons() []refusal {
	good := rings(box(0, 0, 4, 4))
	var out []refusal
	for op := range 5 {
		for i, bad := range faults() {
			want := api.ErrRings + api.Errno(i)
			out = append(out, refusal{op, bad, good, want}, refusal{op, good, bad, want}, refusal{op, nil, bad, want}, refusal{op, bad, nil, want})
			for _, other := range faults() {
				out = append(out, refusal{op, bad, other, want})
			}
		}
		for _, bad := range badPoints() {
			p := rings([]api.Point{at(0, 0), bad, at(0, 4)})
			out = append(out, refusal{op, p, good, api.ErrPoint}, refusal{op, good, p, api.ErrPoint})
		}
	}
	return out
}

func TestClipRefusesP7(t *testing.T) {
	for _, c := range slices.Concat(badOps(), badPolygons()) {
		if l, e := Clip(c.op, c.a, c.b); l != nil || e != c.want {
			t.Errorf("Clip(%d, %v, %v) = %v, %d, want %d", c.op, c.a, c.b, l, e, c.want)
		}
	}
}
