package row

import (
	"slices"
	"testing"
)

const (
	greatest = 1<<63 - 1
	least    = -1 << 63
	all      = 1<<64 - 1
)

// plainBits tells bit by bit which are set, by division alone, so that it shares no way with the package.
func plainBits(l []uint64) []bool {
	var out []bool
	for _, u := range l {
		for range 64 {
			out = append(out, u%2 == 1)
			u /= 2
		}
	}
	return out
}

// plainWords adds up the powers of two of the bits that are set: what plainBits undoes.
func plainWords(bits []bool) []uint64 {
	out := make([]uint64, len(bits)/64)
	power := uint64(1)
	for i, b := range bits {
		if i%64 == 0 {
			power = 1
		}
		if b {
			out[i/64] += power
		}
		power *= 2
	}
	return out
}

// asked tells if bit i is among the n bits from from on.
func asked(i, from, n int) bool {
	return from >= 0 && n >= 0 && i >= from && i-from < n
}

func plainSet(l []uint64, from, n int, on bool) []uint64 {
	bits := plainBits(l)
	for i := range bits {
		if asked(i, from, n) {
			bits[i] = on
		}
	}
	return plainWords(bits)
}

func plainCount(l []uint64, from, n int) int {
	count := 0
	for i, b := range plainBits(l) {
		if b && asked(i, from, n) {
			count++
		}
	}
	return count
}

func plainFirstZero(l []uint64, size, from int) (int, bool) {
	for i, b := range plainBits(l) {
		if from >= 0 && i >= from && i < size && !b {
			return i, true
		}
	}
	return 0, false
}

// rows are those of no word, of one, of two and of three: empty, full, mixed, and full but for one bit.
func rows() [][]uint64 {
	out := [][]uint64{
		nil, {}, {0}, {all}, {1}, {1 << 63}, {0xf0f0f0f00f0f0f0f},
		{0, 0}, {all, all}, {all, 0}, {0, all}, {all, all - 1}, {all >> 1, all},
		{0, 0, 0}, {all, all, all}, {all, 0, all}, {0, all, 0}, {all, all, all >> 1}, {1, 1 << 63, 1},
		{0x9e3779b97f4a7c15, 0xbf58476d1ce4e5b9, 0x94d049bb133111eb},
	}
	for i := range 128 {
		one := []uint64{all, all}
		one[i/64] -= 1 << (i % 64)
		out = append(out, one)
	}
	return out
}

// places are the bounds of words, their neighbours, some within words, and wrong ones.
var places = []int{least, least + 1, -65, -64, -63, -1, 0, 1, 2, 31, 62, 63, 64, 65, 66, 100, 126, 127, 128, 129, 130, 190, 191, 192, 193, 200, 256, 1 << 31, 1 << 32, 1 << 57, 1 << 62, greatest - 63, greatest - 1, greatest}

// P4.1: New has as many words as are needed, none set.
func TestNew(t *testing.T) {
	for _, x := range [][2]int{
		{1, 1}, {2, 1}, {63, 1}, {64, 1}, {65, 2}, {127, 2}, {128, 2}, {129, 3}, {1000, 16}, {1 << 16, 1 << 10}, {1<<16 + 1, 1<<10 + 1}, {1 << 22, 1 << 16},
		{0, 0}, {-1, 0}, {-63, 0}, {-64, 0}, {-65, 0}, {least, 0}, {least + 1, 0},
	} {
		l := New(x[0])
		if len(l) != x[1] {
			t.Errorf("New(%d): %d words, not %d", x[0], len(l), x[1])
		}
		for i, u := range l {
			if u != 0 {
				t.Errorf("New(%d): word %d is %#x", x[0], i, u)
			}
		}
	}
}

// P4.1: as many words as are needed, at each size of some words; R3: each time new ones.
func TestNewOfEachSize(t *testing.T) {
	for size := 1; size <= 300; size++ {
		l := New(size)
		if have := 64 * len(l); have < size || have-64 >= size {
			t.Fatalf("New(%d): %d words", size, len(l))
		}
		l[0] = all
		if New(size)[0] != 0 {
			t.Fatalf("New(%d): what was told is told again", size)
		}
	}
}

// R1: a size beyond what an answer may be ends, without a panic.
func TestNewBeyondLimits(t *testing.T) {
	for _, size := range []int{mostWords*64 + 1, 1 << 40, 1 << 57, 1 << 62, greatest - 64, greatest - 63, greatest - 1, greatest} {
		if l := New(size); len(l) != 0 {
			t.Errorf("New(%d): %d words", size, len(l))
		}
	}
}

// P4.1: Has at the first bit, at the last that is there, at the next, and at wrong inputs.
func TestHas(t *testing.T) {
	for _, x := range []struct {
		l    []uint64
		i    int
		want bool
	}{
		{[]uint64{1}, 0, true}, {[]uint64{all - 1}, 0, false}, {[]uint64{8}, 3, true}, {[]uint64{8}, 2, false}, {[]uint64{8}, 4, false},
		{[]uint64{1 << 63}, 63, true}, {[]uint64{all >> 1}, 63, false}, {[]uint64{all}, 64, false}, {[]uint64{all}, 65, false},
		{[]uint64{0, 1}, 64, true}, {[]uint64{all, all - 1}, 64, false}, {[]uint64{1, 0}, 64, false}, {[]uint64{0, 1 << 63}, 127, true}, {[]uint64{all, all}, 128, false},
		{[]uint64{all, all}, -1, false}, {[]uint64{all, all}, -64, false}, {[]uint64{all, all}, -128, false},
		{[]uint64{all, all}, least, false}, {[]uint64{all, all}, least + 1, false}, {[]uint64{all, all}, greatest, false}, {[]uint64{all, all}, 1 << 32, false}, {[]uint64{all, all}, 1 << 62, false},
		{nil, 0, false}, {nil, -1, false}, {nil, 64, false}, {nil, greatest, false}, {nil, least, false}, {[]uint64{}, 0, false},
	} {
		if got := Has(x.l, x.i); got != x.want {
			t.Errorf("Has(%x, %d): %v", x.l, x.i, got)
		}
	}
}

// P4.1: words in the spare room of a list are not there.
func TestSpareRoomIsNotThere(t *testing.T) {
	l := []uint64{all, 1}[:1]
	if Has(l, 64) || Count(l, 0, 128) != 64 || len(Set(l, 0, 128, true)) != 1 {
		t.Error("a word beyond the last is taken for one that is there")
	}
	if i, ok := FirstZero(l, 128, 0); ok || i != 0 {
		t.Errorf("FirstZero: %d %v", i, ok)
	}
}

// P4.1: Set, on and off, at ordinary inputs and at its edges, worked out by hand.
func TestSet(t *testing.T) {
	for _, x := range []struct {
		from, n int
		want    [3]uint64
	}{
		{3, 2, [3]uint64{0b11000, 0, 0}}, {0, 1, [3]uint64{1, 0, 0}}, {63, 1, [3]uint64{1 << 63, 0, 0}},
		{0, 63, [3]uint64{all >> 1, 0, 0}}, {0, 64, [3]uint64{all, 0, 0}}, {0, 65, [3]uint64{all, 1, 0}},
		{64, 1, [3]uint64{0, 1, 0}}, {64, 64, [3]uint64{0, all, 0}}, {65, 62, [3]uint64{0, all>>1 - 1, 0}},
		{62, 4, [3]uint64{3 << 62, 3, 0}}, {63, 2, [3]uint64{1 << 63, 1, 0}}, {60, 100, [3]uint64{15 << 60, all, 0xffffffff}},
		{0, 128, [3]uint64{all, all, 0}}, {0, 192, [3]uint64{all, all, all}}, {1, 190, [3]uint64{all - 1, all, all >> 1}},
		{63, 66, [3]uint64{1 << 63, all, 1}}, {127, 65, [3]uint64{0, 1 << 63, all}}, {128, 64, [3]uint64{0, 0, all}}, {191, 1, [3]uint64{0, 0, 1 << 63}},
		{0, 193, [3]uint64{all, all, all}}, {0, greatest, [3]uint64{all, all, all}}, {3, greatest, [3]uint64{all - 7, all, all}}, {130, 63, [3]uint64{0, 0, all - 3}},
		{191, 2, [3]uint64{0, 0, 1 << 63}}, {191, greatest, [3]uint64{0, 0, 1 << 63}}, {190, 1 << 32, [3]uint64{0, 0, 3 << 62}},
		{0, 0, [3]uint64{}}, {64, 0, [3]uint64{}}, {100, 0, [3]uint64{}}, {191, 0, [3]uint64{}},
		{192, 0, [3]uint64{}}, {192, 1, [3]uint64{}}, {193, 5, [3]uint64{}}, {1 << 32, 1, [3]uint64{}}, {greatest, 0, [3]uint64{}}, {greatest, 1, [3]uint64{}}, {greatest, greatest, [3]uint64{}},
		{-1, 5, [3]uint64{}}, {-1, greatest, [3]uint64{}}, {-64, 192, [3]uint64{}}, {5, -1, [3]uint64{}}, {0, -1, [3]uint64{}}, {-1, -1, [3]uint64{}}, {200, -100, [3]uint64{}},
		{least, 5, [3]uint64{}}, {least, greatest, [3]uint64{}}, {5, least, [3]uint64{}}, {greatest, least, [3]uint64{}}, {least, least, [3]uint64{}},
	} {
		if got := Set([]uint64{0, 0, 0}, x.from, x.n, true); !slices.Equal(got, x.want[:]) {
			t.Errorf("Set on from %d, %d: %x, not %x", x.from, x.n, got, x.want)
		}
		off := []uint64{^x.want[0], ^x.want[1], ^x.want[2]}
		if got := Set([]uint64{all, all, all}, x.from, x.n, false); !slices.Equal(got, off) {
			t.Errorf("Set off from %d, %d: %x, not %x", x.from, x.n, got, off)
		}
	}
}

// P4.1: of no word nothing is there to set, to count or to find.
func TestOfNoWord(t *testing.T) {
	for _, l := range [][]uint64{nil, {}} {
		for _, from := range places {
			for _, n := range places {
				if len(Set(l, from, n, true)) != 0 || len(Set(l, from, n, false)) != 0 || Count(l, from, n) != 0 {
					t.Errorf("from %d, %d", from, n)
				}
				if i, ok := FirstZero(l, n, from); ok || i != 0 {
					t.Errorf("FirstZero of size %d from %d: %d %v", n, from, i, ok)
				}
			}
			if Has(l, from) {
				t.Errorf("Has %d", from)
			}
		}
	}
}

// P4.1: Count at ordinary inputs, at its edges and at wrong inputs, worked out by hand.
func TestCount(t *testing.T) {
	l := []uint64{15 << 60, 0x3f, 1} // bits 60 to 69, and 128
	full := []uint64{all, all, all}
	for _, x := range []struct {
		l             []uint64
		from, n, want int
	}{
		{l, 0, 192, 11}, {l, 0, 60, 0}, {l, 0, 61, 1}, {l, 0, 64, 4}, {l, 0, 65, 5}, {l, 60, 10, 10}, {l, 61, 3, 3}, {l, 63, 2, 2}, {l, 64, 64, 6}, {l, 64, 65, 7},
		{l, 69, 1, 1}, {l, 70, 58, 0}, {l, 70, 59, 1}, {l, 128, 1, 1}, {l, 128, 64, 1}, {l, 129, 63, 0}, {l, 129, 99, 0},
		{l, 0, 193, 11}, {l, 0, greatest, 11}, {l, 65, greatest, 6}, {l, 128, greatest, 1}, {l, 191, 1, 0}, {l, 0, 0, 0}, {l, 62, 0, 0}, {l, 128, 0, 0},
		{full, 0, 1, 1}, {full, 0, 63, 63}, {full, 0, 64, 64}, {full, 0, 65, 65}, {full, 1, 64, 64}, {full, 63, 130, 129}, {full, 100, 50, 50}, {full, 0, 192, 192}, {full, 0, 1000, 192},
		{full, 191, 1, 1}, {full, 191, 2, 1}, {full, 191, greatest, 1}, {full, 192, 0, 0}, {full, 192, 1, 0}, {full, 193, 64, 0}, {full, 1 << 40, 5, 0}, {full, greatest, 1, 0}, {full, greatest, greatest, 0},
		{full, -1, 99, 0}, {full, -1, 1, 0}, {full, -64, 192, 0}, {full, 0, -1, 0}, {full, 64, -64, 0}, {full, -1, -1, 0},
		{full, least, 5, 0}, {full, least, greatest, 0}, {full, 0, least, 0}, {full, greatest, least, 0}, {full, least, least, 0},
	} {
		if got := Count(x.l, x.from, x.n); got != x.want {
			t.Errorf("Count(%x, %d, %d): %d, not %d", x.l, x.from, x.n, got, x.want)
		}
	}
}

// P4.1: FirstZero at ordinary inputs, at its edges and at wrong inputs, worked out by hand.
func TestFirstZero(t *testing.T) {
	l := []uint64{15 << 60, 0x3f, 1} // bits 60 to 69, and 128
	none, full := []uint64{0, 0}, []uint64{all, all}
	for _, x := range []struct {
		l                []uint64
		size, from, want int
		ok               bool
	}{
		{l, 192, 0, 0, true}, {l, 192, 59, 59, true}, {l, 192, 60, 70, true}, {l, 192, 63, 70, true}, {l, 192, 64, 70, true}, {l, 192, 65, 70, true}, {l, 192, 69, 70, true}, {l, 192, 70, 70, true},
		{l, 192, 127, 127, true}, {l, 192, 128, 129, true}, {l, 192, 191, 191, true}, {l, 192, 192, 0, false},
		{l, 193, 191, 191, true}, {l, 193, 192, 0, false}, {l, 1000, 500, 0, false}, {l, greatest, 128, 129, true}, {l, greatest, 192, 0, false},
		{l, 130, 128, 129, true}, {l, 129, 128, 0, false}, {l, 128, 128, 0, false}, {l, 65, 60, 0, false}, {l, 64, 60, 0, false}, {l, 70, 61, 0, false}, {l, 71, 61, 70, true}, {l, 60, 59, 59, true}, {l, 59, 59, 0, false}, {l, 1, 0, 0, true},
		{none, 128, 0, 0, true}, {none, 128, 63, 63, true}, {none, 128, 64, 64, true}, {none, 128, 127, 127, true}, {none, 127, 127, 0, false}, {none, 128, 128, 0, false}, {none, 1000, 128, 0, false},
		{full, 128, 0, 0, false}, {full, 1000, 0, 0, false}, {full, greatest, 0, 0, false}, {full, 128, 64, 0, false}, {full, 128, 127, 0, false}, {full, 129, 128, 0, false}, {full, 64, 0, 0, false},
		{none, 0, 0, 0, false}, {none, -1, 0, 0, false}, {none, -128, 0, 0, false}, {none, least, 0, 0, false}, {none, least, least, 0, false}, {none, greatest, greatest, 0, false}, {none, least, greatest, 0, false},
		{none, 128, -1, 0, false}, {none, 128, -64, 0, false}, {none, -1, -2, 0, false}, {none, 128, least, 0, false}, {none, greatest, least, 0, false}, {none, 128, greatest, 0, false},
	} {
		if got, ok := FirstZero(x.l, x.size, x.from); got != x.want || ok != x.ok {
			t.Errorf("FirstZero(%x, %d, %d): %d %v, not %d %v", x.l, x.size, x.from, got, ok, x.want, x.ok)
		}
	}
}

// P4.1: the chapter's example.
func TestExample(t *testing.T) {
	l := Set(New(128), 0, 64, true)
	if i, ok := FirstZero(l, 128, 0); i != 64 || !ok {
		t.Errorf("%d %v", i, ok)
	}
}

// P4.1: held against the same promise said bit by bit.
func TestAsSaidPlainly(t *testing.T) {
	for _, l := range rows() {
		bits := plainBits(l)
		for i := -130; i < 260; i++ {
			if got, want := Has(l, i), i >= 0 && i < len(bits) && bits[i]; got != want {
				t.Fatalf("Has(%x, %d): %v", l, i, got)
			}
		}
		for _, from := range places {
			for _, n := range places {
				checkPlainly(t, l, from, n)
			}
		}
	}
}

// P4.1: all small from and n, of one row that has runs over the bounds of words.
func TestSmallAsSaidPlainly(t *testing.T) {
	l := []uint64{0xff000000000000f1, 0x80000000000000ff, 0xf}
	for from := -2; from <= 194; from++ {
		for n := -2; n <= 194; n++ {
			checkPlainly(t, l, from, n)
		}
	}
}

// checkPlainly also holds what follows: what was set is counted.
func checkPlainly(t *testing.T, l []uint64, from, n int) {
	t.Helper()
	for _, on := range []bool{true, false} {
		got, want := Set(l, from, n, on), plainSet(l, from, n, on)
		if !slices.Equal(got, want) {
			t.Fatalf("Set(%x, %d, %d, %v): %x, not %x", l, from, n, on, got, want)
		}
		there := plainCount(plainSet(make([]uint64, len(l)), from, n, true), 0, greatest)
		if !on {
			there = 0
		}
		if counted := Count(got, from, n); counted != there {
			t.Fatalf("Count behind Set(%x, %d, %d, %v): %d, not %d", l, from, n, on, counted, there)
		}
	}
	if got, want := Count(l, from, n), plainCount(l, from, n); got != want {
		t.Fatalf("Count(%x, %d, %d): %d, not %d", l, from, n, got, want)
	}
	i, ok := FirstZero(l, n, from)
	if want, wantOK := plainFirstZero(l, n, from); i != want || ok != wantOK {
		t.Fatalf("FirstZero(%x, %d, %d): %d %v, not %d %v", l, n, from, i, ok, want, wantOK)
	}
}

// R3: what is handed in is not changed, its spare room neither, and no answer shares memory with it.
func TestHandedInIsNotChanged(t *testing.T) {
	was := []uint64{0xf0, all, 0, 7, all, 0}
	for _, from := range places {
		for _, n := range places {
			for _, on := range []bool{true, false} {
				whole := slices.Clone(was)
				l := whole[1:4]
				got := Set(l, from, n, on)
				Has(l, from)
				Count(l, from, n)
				FirstZero(l, n, from)
				for i := range got {
					got[i] = ^got[i]
				}
				_ = append(got, 99)
				if !slices.Equal(whole, was) {
					t.Fatalf("from %d, %d, %v: %x", from, n, on, whole)
				}
			}
		}
	}
}
