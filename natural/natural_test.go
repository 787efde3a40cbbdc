package natural

import (
	"math/big"
	"math/rand/v2"
	"slices"
	"testing"
)

// value returns a number as the library has it.
func value(x Number) *big.Int {
	n := new(big.Int)
	for _, digit := range slices.Backward(x.digits) {
		n.Add(n.Lsh(n, 32), big.NewInt(int64(digit)))
	}
	return n
}

// some returns a number, in which digits that are carried far are frequent.
func some(r *rand.Rand) Number {
	digits := make([]uint32, r.IntN(9))
	for i := range digits {
		switch r.IntN(4) {
		case 0:
			digits[i] = 0
		case 1:
			digits[i] = 1<<32 - 1
		case 2:
			digits[i] = r.Uint32N(10)
		default:
			digits[i] = r.Uint32()
		}
	}
	return trimmed(digits)
}

func check(t *testing.T, got Number, want *big.Int) {
	t.Helper()
	if value(got).Cmp(want) != 0 {
		t.Errorf("got %v, want %v", value(got), want)
	}
	if many := len(got.digits); many > 0 && got.digits[many-1] == 0 {
		t.Errorf("zeros in front of %v", want)
	}
}

func TestOf(t *testing.T) {
	for _, n := range []uint32{0, 1, 9, 1<<32 - 1} {
		check(t, Of(n), big.NewInt(int64(n)))
	}
	check(t, Number{}, new(big.Int))
	if Of(0).Compare(Number{}) != 0 {
		t.Error("0 is 0")
	}
}

func TestRandom(t *testing.T) {
	r := rand.New(rand.NewPCG(9, 3))
	for range 20_000 {
		x, y, n := some(r), some(r), r.Uint32()>>r.IntN(32)|1
		a, b := value(x), value(y)
		check(t, x.Plus(y), new(big.Int).Add(a, b))
		check(t, x.Times(y), new(big.Int).Mul(a, b))
		check(t, x.Over(n), new(big.Int).Quo(a, big.NewInt(int64(n))))
		if got, want := x.Compare(y), a.Cmp(b); got != want {
			t.Errorf("%v, %v: got %d, want %d", a, b, got, want)
		}
		if x.Compare(x.Times(Of(1))) != 0 || x.Compare(x.Plus(Of(1))) != -1 || x.Plus(Of(1)).Compare(x) != 1 {
			t.Errorf("%v is not where it belongs", a)
		}
		check(t, x, a)
		check(t, y, b)
	}
}
