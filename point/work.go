package point

import (
	"imprimatur/api"
	"imprimatur/field"
)

// work is a point that is reckoned with. All but right need one that may be.
type work struct {
	api.Point
}

// right tells whether the point may be.
func (w work) right() bool {
	for _, n := range [...]api.Fe{w.X, w.Y, w.Z, w.T} {
		if field.Least(n) != n {
			return false
		}
	}
	return w.Z != field.Of(0) && field.Mul(w.X, w.Y) == field.Mul(w.Z, w.T) && w.onCurve()
}

// onCurve tells whether the equation holds: with Z^2 on both sides, as x y is T / Z, it needs no division.
func (w work) onCurve() bool {
	left := field.Sub(field.Mul(w.Y, w.Y), field.Mul(w.X, w.X))
	right := field.Add(field.Mul(w.Z, w.Z), field.Mul(d, field.Mul(w.T, w.T)))
	return left == right
}

// same tells whether x and y are the same, again without a division.
func (w work) same(q work) bool {
	return field.Mul(w.X, q.Z) == field.Mul(q.X, w.Z) && field.Mul(w.Y, q.Z) == field.Mul(q.Y, w.Z)
}

// plus is the sum. Both points' Z go into what stands above and below each line; what stands below is never 0, for d has no root.
func (w work) plus(q work) work {
	x := field.Add(field.Mul(w.X, q.Y), field.Mul(q.X, w.Y))
	y := field.Add(field.Mul(w.Y, q.Y), field.Mul(w.X, q.X))
	one := field.Mul(w.Z, q.Z)
	rest := field.Mul(d, field.Mul(w.T, q.T))
	underX, underY := field.Add(one, rest), field.Sub(one, rest)
	return work{api.Point{
		X: field.Mul(x, underY),
		Y: field.Mul(y, underX),
		Z: field.Mul(underX, underY),
		T: field.Mul(x, y),
	}}
}

// contrary is the point with -x for x.
func (w work) contrary() work {
	w.X, w.T = minus(w.X), minus(w.T)
	return w
}

// times is the point added to itself n times: from n's highest bit on, the sum is doubled, and the point comes to it for each bit that is 1. n is taken as it is, for not each point L times is Zero.
func (w work) times(n api.Sc) work {
	sum := work{Zero()}
	for i := len(n)*wordBits - 1; i >= 0; i-- {
		sum = sum.plus(sum)
		if n[i/wordBits]>>(i%wordBits)&1 == 1 {
			sum = sum.plus(w)
		}
	}
	return sum
}

// coordinates are x and y.
func (w work) coordinates() (x, y api.Fe) {
	one := field.Inv(w.Z)
	return field.Mul(w.X, one), field.Mul(w.Y, one)
}
