package num

import (
	"math"
	"math/big"
	"testing"

	"commonhold/api"
)

const (
	most  = math.MaxInt64
	least = math.MinInt64
)

// binary: a call of two numbers, and how a failure names it.
type binary struct {
	name string
	call func(a, b int) (int, api.Errno)
}

// example: two numbers and what has to come of them.
type example struct {
	a, b int
	want int
	code api.Errno
}

func (o binary) check(t *testing.T, l []example) {
	t.Helper()
	for _, e := range l {
		got, code := o.call(e.a, e.b)
		if got != e.want || code != e.code {
			t.Errorf("%s(%d, %d): %d, %d; want %d, %d", o.name, e.a, e.b, got, code, e.want, e.code)
		}
	}
}

// edges: numbers around every place where an answer may turn: 0, the roots of the bounds, the powers of two, the bounds.
func edges() []int {
	l := []int{0, most, least, 7, -7, 10, -10, 12345, -98765}
	for shift := range 64 {
		p := 1 << shift
		l = append(l, p-1, p, p+1, -p-1, -p, -p+1)
	}
	const root = 3037000499 // the greatest number whose square is one of 64 bits
	for d := -2; d <= 2; d++ {
		l = append(l, root+d, -root+d, most/3+d, least/3+d, most/2+d, least/2+d)
	}
	return l
}

// against holds a call, at all pairs of edges, against numbers of any length; exact gives nil where b is 0.
func (o binary) against(t *testing.T, exact func(a, b *big.Int) *big.Int) {
	t.Helper()
	for _, a := range edges() {
		for _, b := range edges() {
			want, wantCode := 0, api.OK
			n := exact(big.NewInt(int64(a)), big.NewInt(int64(b)))
			switch {
			case n == nil:
				wantCode = api.ErrZero
			case !n.IsInt64():
				wantCode = api.ErrOver
			default:
				want = int(n.Int64())
			}
			got, code := o.call(a, b)
			if got != want || code != wantCode {
				t.Fatalf("%s(%d, %d): %d, %d; want %d, %d", o.name, a, b, got, code, want, wantCode)
			}
		}
	}
}

// P1.1
func TestAdd(t *testing.T) {
	o := binary{"Add", Add}
	o.check(t, []example{
		{2, 3, 5, api.OK},
		{-2, 3, 1, api.OK},
		{2, -3, -1, api.OK},
		{-2, -3, -5, api.OK},
		{0, 0, 0, api.OK},
		{most, 0, most, api.OK},
		{0, least, least, api.OK},
		{most - 1, 1, most, api.OK},
		{most, 1, 0, api.ErrOver},
		{1, most, 0, api.ErrOver},
		{most, most, 0, api.ErrOver},
		{least + 1, -1, least, api.OK},
		{least, -1, 0, api.ErrOver},
		{-1, least, 0, api.ErrOver},
		{least, least, 0, api.ErrOver},
		{most, least, -1, api.OK},
		{least, most, -1, api.OK},
	})
	o.against(t, func(a, b *big.Int) *big.Int { return new(big.Int).Add(a, b) })
}

// P1.1
func TestSub(t *testing.T) {
	o := binary{"Sub", Sub}
	o.check(t, []example{
		{2, 3, -1, api.OK},
		{-2, 3, -5, api.OK},
		{2, -3, 5, api.OK},
		{-2, -3, 1, api.OK},
		{most, most, 0, api.OK},
		{least, least, 0, api.OK},
		{least + 1, 1, least, api.OK},
		{least, 1, 0, api.ErrOver},
		{least, most, 0, api.ErrOver},
		{most - 1, -1, most, api.OK},
		{most, -1, 0, api.ErrOver},
		{most, least, 0, api.ErrOver},
		{-1, least, most, api.OK},
		{0, least, 0, api.ErrOver},
		{0, most, -most, api.OK},
		{-1, most, least, api.OK},
		{-2, most, 0, api.ErrOver},
	})
	o.against(t, func(a, b *big.Int) *big.Int { return new(big.Int).Sub(a, b) })
}

// P1.1
func TestMul(t *testing.T) {
	o := binary{"Mul", Mul}
	o.check(t, []example{
		{6, 7, 42, api.OK},
		{-6, 7, -42, api.OK},
		{6, -7, -42, api.OK},
		{-6, -7, 42, api.OK},
		{0, least, 0, api.OK},
		{least, 0, 0, api.OK},
		{least, 1, least, api.OK},
		{1, least, least, api.OK},
		{least, -1, 0, api.ErrOver},
		{-1, least, 0, api.ErrOver},
		{most, -1, -most, api.OK},
		{most, most, 0, api.ErrOver},
		{least, least, 0, api.ErrOver},
		{3037000499, 3037000499, 9223372030926249001, api.OK},
		{3037000500, 3037000500, 0, api.ErrOver},
		{1 << 31, 1 << 32, 0, api.ErrOver},
		{1 << 31, -1 << 32, least, api.OK},
		{1 << 32, 1 << 32, 0, api.ErrOver},
		{7, most / 7, most, api.OK},
		{7, most/7 + 1, 0, api.ErrOver},
		{-2, least / -2, least, api.OK},
		{-2, least/-2 + 1, 0, api.ErrOver},
	})
	o.against(t, func(a, b *big.Int) *big.Int { return new(big.Int).Mul(a, b) })
}

// P1.1
func TestNeg(t *testing.T) {
	o := binary{"Neg, the first of", func(a, _ int) (int, api.Errno) { return Neg(a) }}
	o.check(t, []example{
		{5, 0, -5, api.OK},
		{-5, 0, 5, api.OK},
		{0, 0, 0, api.OK},
		{most, 0, -most, api.OK},
		{least + 1, 0, most, api.OK},
		{least, 0, 0, api.ErrOver},
	})
	o.against(t, func(a, _ *big.Int) *big.Int { return new(big.Int).Neg(a) })
}

// P1.2
func TestDiv(t *testing.T) {
	o := binary{"Div", Div}
	o.check(t, []example{
		{7, 2, 3, api.OK},
		{-7, 2, -3, api.OK},
		{7, -2, -3, api.OK},
		{-7, -2, 3, api.OK},
		{1, 2, 0, api.OK},
		{-1, 2, 0, api.OK},
		{0, 5, 0, api.OK},
		{most, -1, -most, api.OK},
		{least, 1, least, api.OK},
		{least + 1, -1, most, api.OK},
		{least, -1, 0, api.ErrOver},
		{least, least, 1, api.OK},
		{most, least, 0, api.OK},
		{least, most, -1, api.OK},
		{1, 0, 0, api.ErrZero},
		{0, 0, 0, api.ErrZero},
		{most, 0, 0, api.ErrZero},
		{least, 0, 0, api.ErrZero},
	})
	o.against(t, func(a, b *big.Int) *big.Int {
		if b.Sign() == 0 {
			return nil
		}
		return new(big.Int).Quo(a, b)
	})
}

// P1.2
func TestMod(t *testing.T) {
	o := binary{"Mod", Mod}
	o.check(t, []example{
		{7, 2, 1, api.OK},
		{-7, 2, -1, api.OK},
		{7, -2, 1, api.OK},
		{-7, -2, -1, api.OK},
		{6, 3, 0, api.OK},
		{0, 5, 0, api.OK},
		{2, 5, 2, api.OK},
		{least, 1, 0, api.OK},
		{least, -1, 0, api.OK},
		{least, least, 0, api.OK},
		{most, least, most, api.OK},
		{least, most, -1, api.OK},
		{1, 0, 0, api.ErrZero},
		{0, 0, 0, api.ErrZero},
		{most, 0, 0, api.ErrZero},
		{least, 0, 0, api.ErrZero},
	})
	o.against(t, func(a, b *big.Int) *big.Int {
		if b.Sign() == 0 {
			return nil
		}
		return new(big.Int).Rem(a, b)
	})
}

// P1.1: what was added is taken away again.
func TestAddThenSub(t *testing.T) {
	for _, a := range edges() {
		for _, b := range edges() {
			sum, code := Add(a, b)
			if code != api.OK {
				continue
			}
			if back, code := Sub(sum, b); back != a || code != api.OK {
				t.Fatalf("Sub(%d, %d): %d, %d; want %d", sum, b, back, code, a)
			}
		}
	}
}

// P1.2: quotient and rest make the whole.
func TestDivAndMod(t *testing.T) {
	for _, a := range edges() {
		for _, b := range edges() {
			q, code := Div(a, b)
			if code != api.OK {
				continue
			}
			rest, restCode := Mod(a, b)
			p, mulCode := Mul(q, b)
			made, addCode := Add(p, rest)
			if restCode != api.OK || mulCode != api.OK || addCode != api.OK || made != a {
				t.Fatalf("%d by %d: quotient %d, rest %d make %d", a, b, q, rest, made)
			}
		}
	}
}

// addsAll holds add, at each pair of numbers from low to high (a kind's bounds), against the sum as an int.
func addsAll[T whole](t *testing.T, low, high int) {
	t.Helper()
	for a := low; a <= high; a++ {
		for b := low; b <= high; b++ {
			got, fits := add(T(a), T(b))
			want := a + b
			if fits != (low <= want && want <= high) || fits && int(got) != want {
				t.Fatalf("add(%d, %d) of %T: %d, %t", a, b, got, got, fits)
			}
		}
	}
}

// Way of layer 1: one function adds whatever kind of whole number there is.
func TestAddOfEveryKind(t *testing.T) {
	addsAll[int8](t, math.MinInt8, math.MaxInt8)
	addsAll[uint8](t, 0, math.MaxUint8)
	if _, fits := add(int32(math.MaxInt32), 1); fits {
		t.Error("the greatest int32 and 1 fit")
	}
	if n, fits := add(uint64(math.MaxUint64-1), 1); n != math.MaxUint64 || !fits {
		t.Errorf("the greatest uint64: %d, %t", n, fits)
	}
	if _, fits := add(uint64(math.MaxUint64), 1); fits {
		t.Error("the greatest uint64 and 1 fit")
	}
}
