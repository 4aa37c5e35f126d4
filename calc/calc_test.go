package calc

import (
	"math/big"
	"testing"
)

const (
	greatest = 1<<63 - 1
	least    = -1 << 63
	root     = 3037000499 // the greatest number whose square is one of 64 bits with a sign
)

// edges are the numbers round which a sum, a product or a power begins to run over, on both sides of 0.
func edges() []int {
	out := []int{0, least, least + 1, greatest, greatest - 1}
	for shift := range 63 {
		for near := -2; near <= 2; near++ {
			out = append(out, 1<<shift+near, -(1<<shift + near))
		}
	}
	for _, v := range []int{5, 6, 7, 10, 12, 100, 1000, root, root + 1, greatest / 2, greatest / 3, greatest / 5, greatest / 7, 1<<62 + 1<<61} {
		out = append(out, v, v+1, v-1, -v, -v+1, -v-1)
	}
	return out
}

// fits tells what is asked of a call whose answer would be the whole number v.
func fits(v *big.Int) (int, bool) {
	if !v.IsInt64() {
		return 0, false
	}
	return int(v.Int64()), true
}

func whole(v int) *big.Int { return big.NewInt(int64(v)) }

func checkPair(t *testing.T, name string, a, b, got int, ok bool, want int, wantOK bool) {
	t.Helper()
	if got != want || ok != wantOK {
		t.Errorf("%s(%d, %d): %d %v, not %d %v", name, a, b, got, ok, want, wantOK)
	}
}

func checkOne(t *testing.T, name string, v, got int, ok bool, want int, wantOK bool) {
	t.Helper()
	if got != want || ok != wantOK {
		t.Errorf("%s(%d): %d %v, not %d %v", name, v, got, ok, want, wantOK)
	}
}

type pair struct {
	a, b, want int
	ok         bool
}

type one struct {
	v, want int
	ok      bool
}

// P1.1, Add.

func TestAddTable(t *testing.T) {
	for _, x := range []pair{
		{0, 0, 0, true},
		{2, 3, 5, true},
		{-2, 3, 1, true},
		{-2, -3, -5, true},
		{greatest, 0, greatest, true},
		{greatest - 1, 1, greatest, true},
		{greatest, 1, 0, false},
		{greatest, greatest, 0, false},
		{1 << 62, 1<<62 - 1, greatest, true},
		{1 << 62, 1 << 62, 0, false},
		{least, 0, least, true},
		{least + 1, -1, least, true},
		{least, -1, 0, false},
		{least, least, 0, false},
		{-1 << 62, -1 << 62, least, true},
		{-1 << 62, -1<<62 - 1, 0, false},
		{greatest, least, -1, true},
	} {
		got, ok := Add(x.a, x.b)
		checkPair(t, "Add", x.a, x.b, got, ok, x.want, x.ok)
		got, ok = Add(x.b, x.a)
		checkPair(t, "Add", x.b, x.a, got, ok, x.want, x.ok)
	}
}

func TestAddAgainstWholeNumbers(t *testing.T) {
	for _, a := range edges() {
		for _, b := range edges() {
			want, wantOK := fits(new(big.Int).Add(whole(a), whole(b)))
			got, ok := Add(a, b)
			checkPair(t, "Add", a, b, got, ok, want, wantOK)
		}
	}
}

// P1.1, Mul.

func TestMulTable(t *testing.T) {
	for _, x := range []pair{
		{0, 0, 0, true},
		{2, 3, 6, true},
		{-2, 3, -6, true},
		{-2, -3, 6, true},
		{0, greatest, 0, true},
		{0, least, 0, true},
		{1, greatest, greatest, true},
		{1, least, least, true},
		{-1, greatest, -greatest, true},
		{-1, least + 1, greatest, true},
		{-1, least, 0, false},
		{2, greatest, 0, false},
		{2, least, 0, false},
		{2, greatest / 2, greatest - 1, true},
		{2, 1 << 62, 0, false},
		{-2, 1 << 62, least, true},
		{2, -1 << 62, least, true},
		{-2, -1 << 62, 0, false},
		{1 << 31, 1 << 31, 1 << 62, true},
		{1 << 32, 1 << 31, 0, false},
		{-1 << 32, 1 << 31, least, true},
		{1 << 32, 1 << 32, 0, false},
		{-1 << 32, 1 << 32, 0, false},
		{root, root, 9223372030926249001, true},
		{root + 1, root + 1, 0, false},
		{-root, root, -9223372030926249001, true},
		{-root - 1, root + 1, 0, false},
		{greatest, greatest, 0, false},
		{least, least, 0, false},
		{least, greatest, 0, false},
	} {
		got, ok := Mul(x.a, x.b)
		checkPair(t, "Mul", x.a, x.b, got, ok, x.want, x.ok)
		got, ok = Mul(x.b, x.a)
		checkPair(t, "Mul", x.b, x.a, got, ok, x.want, x.ok)
	}
}

func TestMulAgainstWholeNumbers(t *testing.T) {
	for _, a := range edges() {
		for _, b := range edges() {
			want, wantOK := fits(new(big.Int).Mul(whole(a), whole(b)))
			got, ok := Mul(a, b)
			checkPair(t, "Mul", a, b, got, ok, want, wantOK)
		}
	}
}

// P1.1, Up.

func TestUpTable(t *testing.T) {
	for _, x := range []one{
		{1, 1, true},
		{2, 2, true},
		{3, 4, true},
		{4, 4, true},
		{5, 8, true},
		{1000, 1024, true},
		{1<<62 - 1, 1 << 62, true},
		{1 << 62, 1 << 62, true},
		{1<<62 + 1, 0, false},
		{greatest, 0, false},
		{0, 0, false},
		{-1, 0, false},
		{-4, 0, false},
		{least, 0, false},
	} {
		got, ok := Up(x.v)
		checkOne(t, "Up", x.v, got, ok, x.want, x.ok)
	}
}

// leastPower goes up from 1, by doubling alone.
func leastPower(v int) (int, bool) {
	if v < 1 {
		return 0, false
	}
	power := big.NewInt(1)
	for power.Cmp(whole(v)) < 0 {
		power.Lsh(power, 1)
	}
	return fits(power)
}

func TestUpAgainstDoubling(t *testing.T) {
	for v := -5; v <= 5000; v++ {
		want, wantOK := leastPower(v)
		got, ok := Up(v)
		checkOne(t, "Up", v, got, ok, want, wantOK)
	}
	for _, v := range edges() {
		want, wantOK := leastPower(v)
		got, ok := Up(v)
		checkOne(t, "Up", v, got, ok, want, wantOK)
	}
}

// P1.1, Log.

func TestLogTable(t *testing.T) {
	for _, x := range []one{
		{1, 0, true},
		{2, 1, true},
		{4, 2, true},
		{1024, 10, true},
		{1 << 62, 62, true},
		{0, 0, false},
		{3, 0, false},
		{6, 0, false},
		{1023, 0, false},
		{1025, 0, false},
		{1<<62 - 1, 0, false},
		{1<<62 + 1, 0, false},
		{greatest, 0, false},
		{-1, 0, false},
		{-2, 0, false},
		{least, 0, false},
	} {
		got, ok := Log(x.v)
		checkOne(t, "Log", x.v, got, ok, x.want, x.ok)
	}
}

// whichPower looks v up among all the powers there are.
func whichPower(v int) (int, bool) {
	for shift := range 63 {
		if v == 1<<shift {
			return shift, true
		}
	}
	return 0, false
}

func TestLogAgainstAllPowers(t *testing.T) {
	for v := -5; v <= 5000; v++ {
		want, wantOK := whichPower(v)
		got, ok := Log(v)
		checkOne(t, "Log", v, got, ok, want, wantOK)
	}
	for _, v := range edges() {
		want, wantOK := whichPower(v)
		got, ok := Log(v)
		checkOne(t, "Log", v, got, ok, want, wantOK)
	}
}

// P1.1, Round.

func TestRoundTable(t *testing.T) {
	for _, x := range []pair{
		{0, 1, 0, true},
		{0, 5, 0, true},
		{0, greatest, 0, true},
		{1, 5, 5, true},
		{4, 5, 5, true},
		{5, 5, 5, true},
		{6, 5, 10, true},
		{7, 1, 7, true},
		{100, 64, 128, true},
		{1, greatest, greatest, true},
		{greatest, 1, greatest, true},
		{greatest, greatest, greatest, true},
		{greatest, 7, greatest, true},
		{greatest - 1, 2, greatest - 1, true},
		{greatest - 1, 7, greatest, true},
		{greatest, 2, 0, false},
		{greatest, greatest - 1, 0, false},
		{1 << 62, 1<<62 + 1, 1<<62 + 1, true},
		{1<<62 + 1, 1 << 62, 0, false},
		{1<<62 + 2, 1<<62 + 1, 0, false},
		{-1, 5, 0, false},
		{-5, 5, 0, false},
		{least, 1, 0, false},
		{5, 0, 0, false},
		{0, 0, 0, false},
		{5, -1, 0, false},
		{5, -5, 0, false},
		{0, least, 0, false},
		{-1, 0, 0, false},
		{-5, -5, 0, false},
		{least, -1, 0, false},
	} {
		got, ok := Round(x.a, x.b)
		checkPair(t, "Round", x.a, x.b, got, ok, x.want, x.ok)
	}
}

func TestRoundAgainstCountingUp(t *testing.T) {
	for v := range 200 {
		for to := 1; to <= 200; to++ {
			want := 0
			for want < v {
				want += to
			}
			got, ok := Round(v, to)
			checkPair(t, "Round", v, to, got, ok, want, true)
		}
	}
}

// leastMultiple divides whole numbers, which do not run over.
func leastMultiple(v, to int) (int, bool) {
	if v < 0 || to < 1 {
		return 0, false
	}
	times, rest := new(big.Int).QuoRem(whole(v), whole(to), new(big.Int))
	if rest.Sign() > 0 {
		times.Add(times, big.NewInt(1))
	}
	return fits(times.Mul(times, whole(to)))
}

func TestRoundAgainstWholeNumbers(t *testing.T) {
	for _, v := range edges() {
		for _, to := range edges() {
			want, wantOK := leastMultiple(v, to)
			got, ok := Round(v, to)
			checkPair(t, "Round", v, to, got, ok, want, wantOK)
		}
	}
}
