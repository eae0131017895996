package point_test

import (
	"math/big"
	"slices"
	"testing"

	"imprimatur/api"
	"imprimatur/point"
)

// wrongPoint is four numbers that are no point, for one reason alone.
type wrongPoint struct {
	q   api.Point
	why string
}

// wrongPoints are made of each of some points, in some ways to tell them, by each reason.
func wrongPoints() []wrongPoint {
	var list []wrongPoint
	for _, a := range []xy{zero, base, eight()[1], eight()[2], eight()[4], points()[20]} {
		for _, z := range someZ()[:3] {
			list = append(list, tooGreat(a.told(z))...)
			list = append(list, otherProducts(a.told(z))...)
		}
	}
	list = append(list, noZ()...)
	return append(list, offCurve()...)
}

// tooGreat are q with p more, once and as often as it fits, in one of its numbers.
func tooGreat(q api.Point) []wrongPoint {
	var list []wrongPoint
	for i, why := range []string{"X of p or more", "Y of p or more", "Z of p or more", "T of p or more"} {
		for _, more := range []*big.Int{p, sum(p, p)} {
			to := q
			place := []*api.Fe{&to.X, &to.Y, &to.Z, &to.T}[i]
			if n := sum(great(*place), more); n.BitLen() <= 256 {
				*place = fe(n)
				list = append(list, wrongPoint{to, why})
			}
		}
	}
	return list
}

// otherProducts are q with a T that is another one, of which some leave -X^2 + Y^2 = Z^2 + d T^2 as it was.
func otherProducts(q api.Point) []wrongPoint {
	var list []wrongPoint
	for _, n := range []*big.Int{big.NewInt(0), minus(great(q.T)), times(great(q.T), big.NewInt(2)), times(moreBy(great(q.T), 1)), times(moreBy(great(q.T), -1)), times(great(q.X), great(q.Y), big.NewInt(7)), moreBy(p, -1)} {
		to := q
		if to.T = fe(n); to.T != q.T {
			list = append(list, wrongPoint{to, "X Y is not Z T"})
		}
	}
	return list
}

// noZ are rows with a Z of 0 and X Y of 0, so that this is Z T.
func noZ() []wrongPoint {
	one, other := api.Fe{1}, fe(base.y)
	list := []wrongPoint{}
	for _, q := range []api.Point{{}, {X: one}, {Y: one}, {T: one}, {X: other}, {Y: other}, {T: other}, {X: one, T: one}, {Y: one, T: one}, {X: other, T: one}, {Y: other, T: other}} {
		list = append(list, wrongPoint{q, "Z of 0"})
	}
	return list
}

// offCurve are x and y for which the equation does not hold, with a right T: points with both changed places, one another number, or a sign of the equation another one.
func offCurve() []wrongPoint {
	n := func(i int64) *big.Int { return big.NewInt(i) }
	root := new(big.Int).ModSqrt(minus(n(1)), p) // of -1
	list := []wrongPoint{}
	for _, a := range []xy{
		{n(0), n(0)}, {n(1), n(0)}, {n(0), n(2)}, {n(1), n(1)}, {n(1), moreBy(p, -1)}, {moreBy(p, -1), n(0)}, {n(3), n(4)}, {n(0), root}, {root, root}, {root, n(1)},
		{base.y, base.x}, {base.x, n(0)}, {n(0), base.y}, {moreBy(base.x, 1), base.y}, {base.x, moreBy(base.y, 1)}, {base.x, times(base.y, n(2))}, {times(base.x, n(2)), base.y}, {base.x, base.x}, {base.y, base.y},
		{times(base.x, root), base.y}, {base.x, times(base.y, root)}, {times(base.x, root), times(base.y, root)},
		{over(n(1), base.x), base.y}, {base.x, over(n(1), base.y)},
	} {
		for _, z := range someZ() {
			list = append(list, wrongPoint{a.told(z), "the equation"})
		}
	}
	return list
}

// P6.1: Zero and the base point are those of the document, with a Z of 1.
func TestZeroAndBase(t *testing.T) {
	if got := point.Zero(); got != (api.Point{Y: api.Fe{1}, Z: api.Fe{1}}) {
		t.Errorf("Zero: %x", got)
	}
	got := point.Base()
	if got != base.point() || got.Z != (api.Fe{1}) || got.X[0]%2 != 0 {
		t.Errorf("Base: %x, not %x", got, base)
	}
	if five := times(great(got.Y), big.NewInt(5)); five.Int64() != 4 {
		t.Errorf("y of Base, 5 times: %x", five)
	}
}

// P6.1: a point may be, by whatever Z it is told.
func TestRight(t *testing.T) {
	for _, a := range points() {
		for _, z := range someZ() {
			if q := a.told(z); !point.Right(q) {
				t.Errorf("%x, told by %x, may not be", a, z)
			}
		}
	}
	if !point.Right(point.Zero()) || !point.Right(point.Base()) {
		t.Error("Zero or Base may not be")
	}
}

// P6.1: what is wrong for one reason alone may not be.
func TestWrong(t *testing.T) {
	count := map[string]int{}
	for _, w := range wrongPoints() {
		count[w.why]++
		if why := faults(w.q); !slices.Equal(why, []string{w.why}) {
			t.Errorf("%x is wrong by %v, not by %s alone", w.q, why, w.why)
		}
		if point.Right(w.q) {
			t.Errorf("%x may be, in spite of %s", w.q, w.why)
		}
	}
	for _, why := range []string{"X of p or more", "Y of p or more", "Z of p or more", "T of p or more", "X Y is not Z T", "Z of 0", "the equation"} {
		if count[why] < 11 {
			t.Errorf("%d points are wrong by %s", count[why], why)
		}
	}
}

// P6.1, R2: what may not be is refused in every place of every call, with nothing beside.
func TestWrongInEveryPlace(t *testing.T) {
	right := []api.Point{point.Zero(), base.told(someZ()[3]), eight()[3].point()}
	none := api.Point{}
	for _, w := range wrongPoints() {
		for _, q := range append(right, w.q) {
			if point.Same(w.q, q) || point.Same(q, w.q) {
				t.Errorf("%x, wrong by %s, is the same as %x", w.q, w.why, q)
			}
			if got, e := point.Add(w.q, q); got != none || e != api.ErrArg {
				t.Errorf("Add(%x, %x): %x, %d, not ErrArg (%s)", w.q, q, got, e, w.why)
			}
			if got, e := point.Add(q, w.q); got != none || e != api.ErrArg {
				t.Errorf("Add(%x, %x): %x, %d, not ErrArg (%s)", q, w.q, got, e, w.why)
			}
		}
		if got, e := point.Neg(w.q); got != none || e != api.ErrArg {
			t.Errorf("Neg(%x): %x, %d, not ErrArg (%s)", w.q, got, e, w.why)
		}
		for _, n := range []api.Sc{{0}, {1}, {2}, {all, all, all, all}} {
			if got, e := point.Mul(n, w.q); got != none || e != api.ErrArg {
				t.Errorf("Mul(%x, %x): %x, %d, not ErrArg (%s)", n, w.q, got, e, w.why)
			}
		}
		if got, e := point.Bytes(w.q); got != "" || e != api.ErrArg {
			t.Errorf("Bytes(%x): %x, %d, not ErrArg (%s)", w.q, got, e, w.why)
		}
	}
}

// P6.1: points are the same just if x and y are, by whatever Z each is told.
func TestSame(t *testing.T) {
	for i, a := range points() {
		for j, b := range points() {
			for _, y := range someZ()[:3] {
				for _, z := range someZ()[2:] {
					if got := point.Same(a.told(y), b.told(z)); got != (i == j) || got != a.is(b) {
						t.Errorf("Same of %x, told by %x, and %x, told by %x: %t", a, y, b, z, got)
					}
				}
			}
		}
	}
}

// P6.1: points of which just x, or just y, is the same are not the same.
func TestNotSame(t *testing.T) {
	for _, a := range points() {
		for _, b := range []xy{{minus(a.x), a.y}, {a.x, minus(a.y)}, {minus(a.x), minus(a.y)}} {
			for _, y := range someZ()[:3] {
				for _, z := range someZ()[:3] {
					if got := point.Same(a.told(y), b.told(z)); got != a.is(b) {
						t.Errorf("Same of %x, told by %x, and %x, told by %x: %t", a, y, b, z, got)
					}
				}
			}
		}
	}
}
