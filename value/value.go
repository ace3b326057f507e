// Package value is numbers as bits. See ../../shared/doc/01-value.md.
package value

import (
	"math"
	"strconv"
	"strings"

	"rowlock/api"
)

// signBit is all that -0 has; farthest is the end of the whole numbers that a float64 tells apart from their neighbours; digits is how long a value is in Hex.
const (
	signBit  = api.NegZero
	farthest = 1 << 53
	digits   = 16
)

// Right tells whether v is a value that calls answer: of all that is no number just api.NaN is one.
func Right(v api.Val) bool { return Canon(v) == v }

// Canon is the right value that v counts as.
func Canon(v api.Val) api.Val { return Of(math.Float64frombits(uint64(v))) }

// Of is f as a value. Every call answers by it, so that no other bits of what is no number come out.
func Of(f float64) api.Val {
	if math.IsNaN(f) {
		return api.NaN
	}
	return api.Val(math.Float64bits(f))
}

// Float is v as a float64.
func Float(v api.Val) float64 { return math.Float64frombits(uint64(Canon(v))) }

// ClassOf is what kind of number v is.
func ClassOf(v api.Val) api.Class {
	f := Float(v)
	switch {
	case math.IsNaN(f):
		return api.NotNumber
	case math.IsInf(f, 0):
		return api.Infinite
	case f == 0:
		return api.Zero
	}
	return api.Finite
}

// Negative tells whether the sign of v is set. It is that of Canon: api.NaN has none, whatever bits count as it.
func Negative(v api.Val) bool { return Canon(v)&signBit != 0 }

// Add is the sum.
func Add(a, b api.Val) api.Val { return Of(Float(a) + Float(b)) }

// Sub is a less b.
func Sub(a, b api.Val) api.Val { return Of(Float(a) - Float(b)) }

// Mul is the product.
func Mul(a, b api.Val) api.Val { return Of(Float(a) * Float(b)) }

// Div is a by b.
func Div(a, b api.Val) api.Val { return Of(Float(a) / Float(b)) }

// Neg is a with the other sign.
func Neg(a api.Val) api.Val { return Of(-Float(a)) }

// Abs is a without its sign.
func Abs(a api.Val) api.Val { return Of(math.Abs(Float(a))) }

// Min is the one that comes first by Less.
func Min(a, b api.Val) api.Val {
	if Less(b, a) {
		return Canon(b)
	}
	return Canon(a)
}

// Max is the one that comes last by Less.
func Max(a, b api.Val) api.Val {
	if Less(a, b) {
		return Canon(b)
	}
	return Canon(a)
}

// Less tells whether a comes ahead of b. Numbers alone give no order: NaN is to come last, and -0 ahead of 0.
func Less(a, b api.Val) bool {
	x, y := Float(a), Float(b)
	switch {
	case math.IsNaN(x):
		return false
	case math.IsNaN(y):
		return true
	case x == y:
		return Negative(a) && !Negative(b)
	}
	return x < y
}

// Equal tells whether a and b are equal as numbers.
func Equal(a, b api.Val) bool { return Float(a) == Float(b) }

// Same tells whether a and b are one value.
func Same(a, b api.Val) bool { return Canon(a) == Canon(b) }

// Truth tells whether v is a number, and not 0.
func Truth(v api.Val) bool {
	c := ClassOf(v)
	return c != api.Zero && c != api.NotNumber
}

// Int is n as a value; false, if n is too far from 0.
func Int(n int) (api.Val, bool) {
	return tried(func() api.Val {
		need(-farthest <= n && n <= farthest)
		return Of(float64(n))
	})
}

// Whole is v as a whole number; false, if it is none, or too far from 0.
func Whole(v api.Val) (int, bool) {
	return tried(func() int {
		f := Float(v)
		need(math.Abs(f) <= farthest && math.Trunc(f) == f)
		return int(f)
	})
}

// Hex is the bits of v in digits.
func Hex(v api.Val) string {
	s := strconv.FormatUint(uint64(Canon(v)), 16)
	return strings.Repeat("0", digits-len(s)) + s
}

// Parse is the value whose Hex is s.
func Parse(s string) (api.Val, api.Errno) {
	v, ok := tried(func() api.Val { return read(s) })
	if !ok {
		return 0, api.ErrForm
	}
	return v, api.OK
}

// read takes Hex back. ParseUint takes more than Hex writes (capital letters, any number of noughts ahead, bits that are not right): such texts do not come back from Hex as they were.
func read(s string) api.Val {
	n, err := strconv.ParseUint(s, 16, 64)
	need(err == nil)
	v := api.Val(n)
	need(Hex(v) == s)
	return v
}

// cannotBe is the panic by which this package gives up what cannot be.
type cannotBe struct{}

// need gives up, unless ok.
func need(ok bool) {
	if !ok {
		panic(cannotBe{})
	}
}

// tried is what work answers; false, and the zero value, if it gave up.
func tried[T any](work func() T) (answer T, ok bool) {
	defer func() { ok = recover() == nil }()
	return work(), true
}
