package word

import "testing"

const (
	greatest = 1<<63 - 1
	least    = -1 << 63
	all      = 1<<64 - 1
)

// bitsOf tells bit by bit which are set, by division alone, so that it shares no way with the package.
func bitsOf(u uint64) [64]bool {
	var out [64]bool
	for i := range out {
		out[i] = u%2 == 1
		u /= 2
	}
	return out
}

// plainLow tells the lowest bit that is as set says.
func plainLow(u uint64, set bool) int {
	for i, b := range bitsOf(u) {
		if b == set {
			return i
		}
	}
	return 64
}

func plainOnes(u uint64) int {
	count := 0
	for _, b := range bitsOf(u) {
		if b {
			count++
		}
	}
	return count
}

func plainNth(u uint64, n int) int {
	for i, b := range bitsOf(u) {
		if b && n == 0 {
			return i
		}
		if b {
			n--
		}
	}
	return 64
}

// plainMask adds up the powers of two that belong to it.
func plainMask(i, n int) uint64 {
	if i < 0 || n < 0 {
		return 0
	}
	sum, power := uint64(0), uint64(1)
	for bit := range 64 {
		if bit >= i && bit-i < n {
			sum += power
		}
		power *= 2
	}
	return sum
}

// words are the named edges, all words of one run of ones, of one bit and of two, the opposites of these, and many others.
func words() []uint64 {
	out := []uint64{0, all, 1, 1 << 63, all - 1, all >> 1, 0xaaaaaaaaaaaaaaaa, 0x5555555555555555, 0xff00, 0xffffffff, 0xffffffff00000000, 0x8000000000000001}
	for i := range 64 {
		for j := i; j < 64; j++ {
			run := uint64(all) >> (63 - j + i) << i
			out = append(out, run, ^run, 1<<i|1<<j, ^uint64(1<<i|1<<j))
		}
	}
	u := uint64(0x9e3779b97f4a7c15)
	for range 5000 {
		u ^= u << 13
		u ^= u >> 7
		u ^= u << 17
		out = append(out, u, u&(u<<21), u|u>>9)
	}
	return out
}

// P3.1: the edges that the document names, worked out by hand.
func TestLowAndOnes(t *testing.T) {
	for _, x := range []struct {
		u                  uint64
		lowOne, lowZero, n int
	}{
		{8, 3, 0, 1},
		{0, 64, 0, 0},
		{all, 0, 64, 64},
		{1, 0, 1, 1},
		{1 << 63, 63, 0, 1},
		{all - 1, 1, 0, 63},
		{all >> 1, 0, 63, 63},
		{7, 0, 3, 3},
		{0b1011000, 3, 0, 3},
		{0xff00, 8, 0, 8},
		{0xffffffff, 0, 32, 32},
		{0xffffffff00000000, 32, 0, 32},
		{0x8000000000000001, 0, 1, 2},
	} {
		if one, zero, n := LowOne(x.u), LowZero(x.u), Ones(x.u); one != x.lowOne || zero != x.lowZero || n != x.n {
			t.Errorf("%#x: %d %d %d, not %d %d %d", x.u, one, zero, n, x.lowOne, x.lowZero, x.n)
		}
	}
}

// P3.1: one bit alone, and all but one.
func TestLowAndOnesOfOneBit(t *testing.T) {
	for i := range 64 {
		one := uint64(1) << i
		if LowOne(one) != i || Ones(one) != 1 || LowZero(^one) != i || Ones(^one) != 63 {
			t.Errorf("bit %d: %d %d %d %d", i, LowOne(one), Ones(one), LowZero(^one), Ones(^one))
		}
		// A greater bit beside it hides nothing.
		if LowOne(one|1<<63) != i || LowZero(^one&(all>>1)) != i {
			t.Errorf("bit %d beside 63: %d %d", i, LowOne(one|1<<63), LowZero(^one&(all>>1)))
		}
	}
}

// P3.1: held against the same promise said bit by bit.
func TestAsSaidPlainly(t *testing.T) {
	for _, u := range words() {
		if got, want := LowOne(u), plainLow(u, true); got != want {
			t.Fatalf("LowOne(%#x): %d, not %d", u, got, want)
		}
		if got, want := LowZero(u), plainLow(u, false); got != want {
			t.Fatalf("LowZero(%#x): %d, not %d", u, got, want)
		}
		if got, want := Ones(u), plainOnes(u); got != want {
			t.Fatalf("Ones(%#x): %d, not %d", u, got, want)
		}
	}
}

// P3.1: Mask at ordinary inputs, at its edges and at wrong inputs.
func TestMask(t *testing.T) {
	for _, x := range []struct {
		i, n int
		want uint64
	}{
		{3, 2, 0b11000}, {0, 1, 1}, {8, 8, 0xff00}, {32, 32, 0xffffffff00000000},
		{0, 0, 0}, {63, 0, 0}, {64, 0, 0}, {65, 0, 0},
		{0, 63, all >> 1}, {0, 64, all}, {0, 65, all}, {0, greatest, all},
		{63, 1, 1 << 63}, {63, 63, 1 << 63}, {63, 64, 1 << 63}, {63, greatest, 1 << 63},
		{64, 1, 0}, {64, 64, 0}, {65, 1, 0}, {128, 64, 0}, {1 << 32, 1, 0}, {greatest, 1, 0}, {greatest, greatest, 0},
		{1, 63, all - 1}, {1, 64, all - 1}, {1, greatest, all - 1}, {60, 4, 15 << 60}, {60, 5, 15 << 60}, {60, 1 << 32, 15 << 60}, {32, 33, 0xffffffff00000000},
		{-1, 5, 0}, {5, -1, 0}, {-1, -1, 0}, {-1, 64, 0}, {-64, 128, 0}, {0, -1, 0}, {-1, 0, 0},
		{least, 5, 0}, {5, least, 0}, {least, least, 0}, {least, greatest, 0}, {greatest, least, 0}, {least + 1, 1, 0},
	} {
		if got := Mask(x.i, x.n); got != x.want {
			t.Errorf("Mask(%d, %d): %#x, not %#x", x.i, x.n, got, x.want)
		}
	}
}

// P3.1: all small i and n, with some below nought and some beyond the word.
func TestMaskAsSaidPlainly(t *testing.T) {
	for i := -3; i <= 131; i++ {
		for n := -3; n <= 131; n++ {
			if got, want := Mask(i, n), plainMask(i, n); got != want {
				t.Fatalf("Mask(%d, %d): %#x, not %#x", i, n, got, want)
			}
		}
	}
}

// P3.1: Nth at ordinary inputs, at its edges and at wrong inputs.
func TestNth(t *testing.T) {
	for _, x := range []struct {
		u       uint64
		n, want int
	}{
		{0b1011000, 0, 3}, {0b1011000, 1, 4}, {0b1011000, 2, 6}, {0b1011000, 3, 64}, {0b1011000, 65, 64},
		{0, 0, 64}, {0, 1, 64}, {0, -1, 64},
		{1, 0, 0}, {1, 1, 64}, {1 << 63, 0, 63}, {1 << 63, 1, 64},
		{all, 0, 0}, {all, 63, 63}, {all, 64, 64}, {all, 65, 64}, {all, 1 << 32, 64}, {all, greatest, 64},
		{all - 1, 0, 1}, {all - 1, 62, 63}, {all - 1, 63, 64}, {all >> 1, 62, 62}, {all >> 1, 63, 64},
		{5, -1, 64}, {all, -1, 64}, {all, -64, 64}, {all, least, 64}, {all, least + 1, 64},
	} {
		if got := Nth(x.u, x.n); got != x.want {
			t.Errorf("Nth(%#x, %d): %d, not %d", x.u, x.n, got, x.want)
		}
	}
}

// P3.1: of every n from below nought to beyond the word; what follows: there are just as many as Ones counts.
func TestNthAsSaidPlainly(t *testing.T) {
	for _, u := range words() {
		found := 0
		for n := 0; n <= 66; n++ {
			got := Nth(u, n)
			if want := plainNth(u, n); got != want {
				t.Fatalf("Nth(%#x, %d): %d, not %d", u, n, got, want)
			}
			if got < 64 {
				found++
			}
		}
		if found != Ones(u) || Nth(u, -1) != 64 {
			t.Fatalf("%#x: %d found, %d counted, %d ahead of the first", u, found, Ones(u), Nth(u, -1))
		}
	}
}
