package value

import (
	"math"
	"math/big"
	"strings"
	"testing"

	"rowlock/api"
)

// rising are values in the order that the document gives, the edges of each kind among them.
var rising = []api.Val{
	0xfff0000000000000, // the infinite one below 0
	0xffefffffffffffff,
	0xc340000000000001, // -2^53 - 2
	0xc340000000000000, // -2^53
	0xc33fffffffffffff, // -2^53 + 1
	0xc000000000000000,
	0xbff0000000000001,
	0xbff0000000000000, // -1
	0xbfe0000000000000,
	0x8010000000000000,
	0x800fffffffffffff,
	0x8000000000000001,
	api.NegZero,
	0,
	0x0000000000000001,
	0x000fffffffffffff,
	0x0010000000000000,
	0x3fe0000000000000,
	api.One,
	0x3ff0000000000001,
	0x4000000000000000,
	0x433fffffffffffff, // 2^53 - 1
	0x4340000000000000, // 2^53
	0x4340000000000001, // 2^53 + 2
	0x7fefffffffffffff,
	api.Infinity,
	api.NaN,
}

// wrong are bits that are not right.
var wrong = []api.Val{
	0x7ff0000000000001, 0x7ff7ffffffffffff, 0x7ff8000000000001, 0x7fffffffffffffff,
	0xfff0000000000001, 0xfff7ffffffffffff, 0xfff8000000000000, 0xfff8000000000001, 0xffffffffffffffff,
}

func everything() []api.Val {
	l := append([]api.Val{}, rising...)
	return append(l, wrong...)
}

// samples are bits of all kinds, the same ones in each run.
func samples(n int) []api.Val {
	var l []api.Val
	x := uint64(1)
	for range n {
		x += 0x9e3779b97f4a7c15
		z := x
		z = (z ^ z>>30) * 0xbf58476d1ce4e5b9
		z = (z ^ z>>27) * 0x94d049bb133111eb
		l = append(l, api.Val(z^z>>31))
	}
	return l
}

// place is where v stands in rising; what is not right counts as NaN.
func place(t *testing.T, v api.Val) int {
	for i, r := range rising {
		if r == v {
			return i
		}
	}
	for _, w := range wrong {
		if w == v {
			return len(rising) - 1
		}
	}
	t.Fatalf("%x is in no list", uint64(v))
	return 0
}

func isNoNumber(v api.Val) bool {
	return v&0x7ff0000000000000 == 0x7ff0000000000000 && v&0x000fffffffffffff != 0
}

func TestRightAndCanon(t *testing.T) {
	for _, v := range rising {
		if !Right(v) || Canon(v) != v {
			t.Errorf("%x: Right %v, Canon %x", uint64(v), Right(v), uint64(Canon(v)))
		}
	}
	for _, v := range wrong {
		if Right(v) || Canon(v) != api.NaN {
			t.Errorf("%x: Right %v, Canon %x", uint64(v), Right(v), uint64(Canon(v)))
		}
	}
	for _, v := range samples(2000) {
		if right := !isNoNumber(v) || v == api.NaN; Right(v) != right {
			t.Errorf("%x: Right %v", uint64(v), Right(v))
		}
	}
}

func TestOfAndFloat(t *testing.T) {
	rows := []struct {
		f float64
		v api.Val
	}{
		{0, 0}, {math.Copysign(0, -1), api.NegZero}, {1, api.One}, {-2, 0xc000000000000000},
		{0.1, 0x3fb999999999999a}, {math.Inf(1), api.Infinity}, {math.Inf(-1), 0xfff0000000000000},
		{math.SmallestNonzeroFloat64, 1}, {math.MaxFloat64, 0x7fefffffffffffff},
	}
	for _, r := range rows {
		if Of(r.f) != r.v {
			t.Errorf("Of(%v) is %x", r.f, uint64(Of(r.f)))
		}
		if f := Float(r.v); f != r.f || math.Signbit(f) != math.Signbit(r.f) {
			t.Errorf("Float(%x) is %v", uint64(r.v), f)
		}
	}
	for _, v := range append(wrong, api.NaN) {
		if f := Float(v); math.Float64bits(f) != uint64(api.NaN) {
			t.Errorf("Float(%x) is %x", uint64(v), math.Float64bits(f))
		}
		if f := math.Float64frombits(uint64(v)); Of(f) != api.NaN {
			t.Errorf("Of(%x) is %x", uint64(v), uint64(Of(f)))
		}
	}
}

func TestClassOf(t *testing.T) {
	rows := map[api.Val]api.Class{
		0: api.Zero, api.NegZero: api.Zero,
		api.Infinity: api.Infinite, 0xfff0000000000000: api.Infinite,
		api.NaN: api.NotNumber,
	}
	for _, v := range wrong {
		rows[v] = api.NotNumber
	}
	for _, v := range everything() {
		want, named := rows[v]
		if !named {
			want = api.Finite
		}
		if ClassOf(v) != want {
			t.Errorf("%x is of class %d, not %d", uint64(v), ClassOf(v), want)
		}
	}
}

func TestNegative(t *testing.T) {
	for _, v := range everything() {
		if want := v>>63 == 1 && !isNoNumber(v); Negative(v) != want {
			t.Errorf("Negative(%x) is %v", uint64(v), !want)
		}
	}
}

func TestReckon(t *testing.T) {
	const (
		two     api.Val = 0x4000000000000000
		three   api.Val = 0x4008000000000000
		minus   api.Val = 0xbff0000000000000
		below   api.Val = 0xfff0000000000000
		most    api.Val = 0x7fefffffffffffff
		least   api.Val = 1
		big53   api.Val = 0x4340000000000000
		big53p2 api.Val = 0x4340000000000001
		big53p4 api.Val = 0x4340000000000002
	)
	rows := []struct {
		name       string
		call       func(a, b api.Val) api.Val
		a, b, want api.Val
	}{
		{"Add", Add, api.One, two, three},
		{"Add", Add, 0x3fb999999999999a, 0x3fc999999999999a, 0x3fd3333333333334}, // 0.1 and 0.2
		{"Add", Add, big53, api.One, big53},                                      // a tie: to even, down
		{"Add", Add, big53p2, api.One, big53p4},                                  // a tie: to even, up
		{"Add", Add, most, most, api.Infinity},
		{"Add", Add, api.Infinity, below, api.NaN},
		{"Add", Add, api.Infinity, minus, api.Infinity},
		{"Add", Add, 0, api.NegZero, 0},
		{"Add", Add, api.NegZero, api.NegZero, api.NegZero},
		{"Add", Add, api.One, minus, 0},
		{"Sub", Sub, three, two, api.One},
		{"Sub", Sub, two, three, minus},
		{"Sub", Sub, api.One, api.One, 0},
		{"Sub", Sub, api.NegZero, 0, api.NegZero},
		{"Sub", Sub, 0, 0, 0},
		{"Sub", Sub, api.Infinity, api.Infinity, api.NaN},
		{"Sub", Sub, 0x0010000000000000, 0x000fffffffffffff, least},
		{"Mul", Mul, three, api.NegZero, api.NegZero},
		{"Mul", Mul, minus, api.NegZero, 0},
		{"Mul", Mul, minus, two, 0xc000000000000000},
		{"Mul", Mul, api.Infinity, 0, api.NaN},
		{"Mul", Mul, api.Infinity, minus, below},
		{"Mul", Mul, most, two, api.Infinity},
		{"Mul", Mul, least, 0x3fe0000000000000, 0},     // a tie: to even
		{"Mul", Mul, 3 * least, 0x3fe0000000000000, 2}, // a tie: to even
		{"Div", Div, api.One, api.NegZero, below},
		{"Div", Div, api.One, 0, api.Infinity},
		{"Div", Div, 0, api.NegZero, api.NaN},
		{"Div", Div, api.Infinity, api.Infinity, api.NaN},
		{"Div", Div, minus, api.Infinity, api.NegZero},
		{"Div", Div, api.One, three, 0x3fd5555555555555},
		{"Div", Div, three, two, 0x3ff8000000000000},
	}
	for _, r := range rows {
		if got := r.call(r.a, r.b); got != r.want {
			t.Errorf("%s(%x, %x) is %x, not %x", r.name, uint64(r.a), uint64(r.b), uint64(got), uint64(r.want))
		}
	}
}

// TestRounding holds the calls against exact fractions, rounded once.
func TestRounding(t *testing.T) {
	var l []api.Val
	for _, v := range append(samples(200), rising...) {
		if ClassOf(v) == api.Finite {
			l = append(l, v)
		}
	}
	exact := func(v api.Val) *big.Rat { return new(big.Rat).SetFloat64(math.Float64frombits(uint64(v))) }
	for i := range len(l) - 1 {
		a, b := l[i], l[i+1]
		x, y := exact(a), exact(b)
		rows := []struct {
			name string
			got  api.Val
			want *big.Rat
		}{
			{"Add", Add(a, b), new(big.Rat).Add(x, y)}, {"Sub", Sub(a, b), new(big.Rat).Sub(x, y)},
			{"Mul", Mul(a, b), new(big.Rat).Mul(x, y)}, {"Div", Div(a, b), new(big.Rat).Quo(x, y)},
		}
		for _, r := range rows {
			if f, _ := r.want.Float64(); math.Float64frombits(uint64(r.got)) != f {
				t.Errorf("%s(%x, %x) is %x, not %v", r.name, uint64(a), uint64(b), uint64(r.got), f)
			}
		}
	}
}

func TestNegAndAbs(t *testing.T) {
	for _, v := range everything() {
		neg, abs := v^(1<<63), v&^(1<<63)
		if isNoNumber(v) {
			neg, abs = api.NaN, api.NaN
		}
		if Neg(v) != neg || Abs(v) != abs {
			t.Errorf("%x: Neg %x, Abs %x", uint64(v), uint64(Neg(v)), uint64(Abs(v)))
		}
	}
}

func TestLessMinMax(t *testing.T) {
	for _, a := range everything() {
		for _, b := range everything() {
			i, j := place(t, a), place(t, b)
			if Less(a, b) != (i < j) {
				t.Errorf("Less(%x, %x) is %v", uint64(a), uint64(b), Less(a, b))
			}
			if Min(a, b) != rising[min(i, j)] {
				t.Errorf("Min(%x, %x) is %x", uint64(a), uint64(b), uint64(Min(a, b)))
			}
			if Max(a, b) != rising[max(i, j)] {
				t.Errorf("Max(%x, %x) is %x", uint64(a), uint64(b), uint64(Max(a, b)))
			}
		}
	}
}

// TestLessIsAnOrder: of two values that are not the same one just one comes first, and what comes first goes on (P1.4).
func TestLessIsAnOrder(t *testing.T) {
	l := append(samples(40), everything()...)
	for _, a := range l {
		for _, b := range l {
			n := 0
			for _, holds := range []bool{Less(a, b), Less(b, a), Canon(a) == Canon(b)} {
				if holds {
					n++
				}
			}
			if n != 1 {
				t.Fatalf("%x and %x: %d of less, more and the same", uint64(a), uint64(b), n)
			}
			for _, c := range l {
				if Less(a, b) && Less(b, c) && !Less(a, c) {
					t.Fatalf("%x, %x, %x: less does not go on", uint64(a), uint64(b), uint64(c))
				}
			}
		}
	}
}

func TestEqualAndSame(t *testing.T) {
	for _, a := range everything() {
		for _, b := range everything() {
			i, j := place(t, a), place(t, b)
			same := i == j
			zeros := a<<1 == 0 && b<<1 == 0
			equal := zeros || same && !isNoNumber(a)
			if Equal(a, b) != equal || Same(a, b) != same {
				t.Errorf("%x and %x: Equal %v, Same %v", uint64(a), uint64(b), Equal(a, b), Same(a, b))
			}
		}
	}
}

func TestTruth(t *testing.T) {
	for _, v := range everything() {
		if want := v<<1 != 0 && !isNoNumber(v); Truth(v) != want {
			t.Errorf("Truth(%x) is %v", uint64(v), !want)
		}
	}
}

func TestInt(t *testing.T) {
	rows := []struct {
		n  int
		v  api.Val
		ok bool
	}{
		{0, 0, true}, {1, api.One, true}, {-1, 0xbff0000000000000, true}, {3, 0x4008000000000000, true},
		{1<<53 - 1, 0x433fffffffffffff, true}, {1 << 53, 0x4340000000000000, true},
		{-1<<53 + 1, 0xc33fffffffffffff, true}, {-1 << 53, 0xc340000000000000, true},
		{1<<53 + 1, 0, false}, {1<<53 + 2, 0, false}, {-1<<53 - 1, 0, false}, {-1<<53 - 2, 0, false},
		{math.MaxInt, 0, false}, {math.MinInt, 0, false},
	}
	for _, r := range rows {
		if v, ok := Int(r.n); v != r.v || ok != r.ok {
			t.Errorf("Int(%d) is %x, %v", r.n, uint64(v), ok)
		}
	}
}

func TestWhole(t *testing.T) {
	rows := []struct {
		v  api.Val
		n  int
		ok bool
	}{
		{0, 0, true}, {api.NegZero, 0, true}, {api.One, 1, true}, {0xc000000000000000, -2, true},
		{0x433fffffffffffff, 1<<53 - 1, true}, {0x4340000000000000, 1 << 53, true}, {0x4340000000000001, 0, false},
		{0xc33fffffffffffff, -1<<53 + 1, true}, {0xc340000000000000, -1 << 53, true}, {0xc340000000000001, 0, false},
		{0x3fe0000000000000, 0, false}, {0xbff8000000000000, 0, false}, {0x3ff0000000000001, 0, false}, {1, 0, false},
		{0x432fffffffffffff, 0, false}, // 2^52 less a half
		{0x7fefffffffffffff, 0, false}, {0xffefffffffffffff, 0, false},
		{api.Infinity, 0, false}, {0xfff0000000000000, 0, false}, {api.NaN, 0, false},
		{wrong[0], 0, false}, {wrong[6], 0, false},
	}
	for _, r := range rows {
		if n, ok := Whole(r.v); n != r.n || ok != r.ok {
			t.Errorf("Whole(%x) is %d, %v", uint64(r.v), n, ok)
		}
	}
	for n := -300; n <= 300; n++ {
		v, _ := Int(n)
		if m, ok := Whole(v); m != n || !ok {
			t.Errorf("Whole of Int(%d) is %d, %v", n, m, ok)
		}
	}
}

func TestHex(t *testing.T) {
	rows := map[api.Val]string{
		0: "0000000000000000", 1: "0000000000000001", api.One: "3ff0000000000000", api.NegZero: "8000000000000000",
		0x0123456789abcdef: "0123456789abcdef", api.NaN: "7ff8000000000000", 0xfff0000000000000: "fff0000000000000",
	}
	for _, v := range wrong {
		rows[v] = "7ff8000000000000"
	}
	for v, want := range rows {
		if Hex(v) != want {
			t.Errorf("Hex(%x) is %s", uint64(v), Hex(v))
		}
	}
}

func TestParse(t *testing.T) {
	for _, v := range append(samples(500), everything()...) {
		if got, e := Parse(Hex(v)); got != Canon(v) || e != api.OK {
			t.Errorf("Parse(%s) is %x, %d", Hex(v), uint64(got), e)
		}
	}
	wrongTexts := []string{
		"", "0", "3ff", "3ff000000000000", "3ff00000000000000", "03ff0000000000000",
		"3FF0000000000000", "3fF0000000000000", "000000000000000g", "g000000000000000",
		"+3ff000000000000", "-3ff000000000000", "0x3ff00000000000", "3ff_000000000000",
		" 3ff000000000000", "3ff000000000000 ", "3ff0000000000000\n", "\x00\x00\x00\x00\x00\x00\x00\x00\x00\x00\x00\x00\x00\x00\x00\x00",
		"000000000000000/", "000000000000000:", "000000000000000`", "\xff\xff\xff\xff\xff\xff\xff\xff\xff\xff\xff\xff\xff\xff\xff\xff",
		"7ff0000000000001", "7ff8000000000001", "7fffffffffffffff", "fff8000000000000", "ffffffffffffffff",
		"00000000000000\u00e9", "000000000000000\u00e9", strings.Repeat("0", 17), strings.Repeat("0", 1<<16), strings.Repeat("\uff10", 16),
	}
	for _, s := range wrongTexts {
		if v, e := Parse(s); v != 0 || e != api.ErrForm {
			t.Errorf("Parse(%q) is %x, %d", s, uint64(v), e)
		}
	}
}

// TestWrongCountsAsNaN: all calls but Right take what is not right as NaN.
func TestWrongCountsAsNaN(t *testing.T) {
	pairs := []func(a, b api.Val) api.Val{Add, Sub, Mul, Div, Min, Max}
	asks := []func(a, b api.Val) bool{Less, Equal, Same}
	for _, w := range wrong {
		for _, v := range everything() {
			for i, f := range pairs {
				if f(w, v) != f(api.NaN, v) || f(v, w) != f(v, api.NaN) {
					t.Errorf("call %d of %x and %x", i, uint64(w), uint64(v))
				}
			}
			for i, f := range asks {
				if f(w, v) != f(api.NaN, v) || f(v, w) != f(v, api.NaN) {
					t.Errorf("question %d of %x and %x", i, uint64(w), uint64(v))
				}
			}
		}
	}
}

// TestAnswersAreRight: no call answers bits that are not right (P1.5).
func TestAnswersAreRight(t *testing.T) {
	l := append(samples(60), everything()...)
	right := func(v api.Val) bool { return !isNoNumber(v) || v == api.NaN }
	for _, a := range l {
		for _, v := range []api.Val{Canon(a), Neg(a), Abs(a), Of(Float(a)), Of(math.Float64frombits(uint64(a)))} {
			if !right(v) {
				t.Errorf("of %x: %x", uint64(a), uint64(v))
			}
		}
		for _, b := range l {
			for _, v := range []api.Val{Add(a, b), Sub(a, b), Mul(a, b), Div(a, b), Min(a, b), Max(a, b)} {
				if !right(v) {
					t.Errorf("of %x and %x: %x", uint64(a), uint64(b), uint64(v))
				}
			}
		}
	}
}

// TestNegTakenBack: Neg of Neg is the value, and Sub is Add of Neg (P1.6).
func TestNegTakenBack(t *testing.T) {
	l := append(samples(60), everything()...)
	for _, a := range l {
		if Neg(Neg(a)) != Canon(a) {
			t.Errorf("Neg of Neg of %x is %x", uint64(a), uint64(Neg(Neg(a))))
		}
		for _, b := range l {
			if Sub(a, b) != Add(a, Neg(b)) {
				t.Errorf("Sub(%x, %x) is %x", uint64(a), uint64(b), uint64(Sub(a, b)))
			}
		}
	}
}
