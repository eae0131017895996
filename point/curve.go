package point

import (
	"imprimatur/api"
	"imprimatur/field"
)

// d is -121665 / 121666.
var d = api.Fe{0x75eb4dca135978a3, 0x00700a4d4141d8ab, 0x8cc740797779e898, 0x52036cee2b6ffe73}

// The base point: y is 4 / 5, x is even.
var (
	baseX = api.Fe{0xc9562d608f25d51a, 0x692cc7609525a7b2, 0xc0a4e231fdd6dc5c, 0x216936d3cd6e53fe}
	baseY = api.Fe{0x6666666666666658, 0x6666666666666666, 0x6666666666666666, 0x6666666666666666}
)

// at is the point of x and y, told by a Z of 1.
func at(x, y api.Fe) api.Point {
	return api.Point{X: x, Y: y, Z: field.Of(1), T: field.Mul(x, y)}
}

// withY is the point of y whose x is odd, or the one whose x is even, and whether there is one. By the curve's equation, the square of x is (y^2 - 1) / (d y^2 + 1), and what that is divided by is never 0, for -1 / d has no root.
func withY(y api.Fe, isOdd bool) (api.Point, bool) {
	square := field.Mul(y, y)
	over := field.Sub(square, field.Of(1))
	under := field.Add(field.Mul(d, square), field.Of(1))
	x, is := field.Sqrt(field.Mul(over, field.Inv(under)))
	if isOdd {
		x = minus(x)
	}
	// An x of 0 is its own contrary, so that one is even all the same.
	return at(x, y), is && odd(x) == isOdd
}

func minus(x api.Fe) api.Fe {
	return field.Sub(field.Of(0), x)
}

// odd tells of a number below p whether it is odd.
func odd(x api.Fe) bool {
	return x[0]%2 == 1
}
