package tree

import (
	"reflect"
	"slices"
	"testing"

	"hodman/api"
	"hodman/row"
)

const (
	greatest = 1<<63 - 1
	least    = -1 << 63
	all      = 1<<64 - 1
)

// plainWords adds up the powers of two of the bits that are set; those beyond the last one, up to whole words, are set.
func plainWords(bits []bool) []uint64 {
	var out []uint64
	power := uint64(1)
	for i := 0; i < len(bits) || i%64 != 0; i++ {
		if i%64 == 0 {
			out = append(out, 0)
			power = 1
		}
		if i >= len(bits) || bits[i] {
			out[i/64] += power
		}
		power *= 2
	}
	return out
}

// plainTree is what api.Tree says of these bits, level by level, without a shift.
func plainTree(bits []bool) api.Tree {
	t := api.Tree{Size: len(bits)}
	for {
		words := plainWords(bits)
		t.Levels = append(t.Levels, words)
		if len(words) == 1 {
			return t
		}
		bits = make([]bool, len(words))
		for i, u := range words {
			bits[i] = u == all
		}
	}
}

// plainBits tells bit by bit which ones below Size are set, as far as there are words.
func plainBits(t api.Tree) []bool {
	var out []bool
	for _, u := range t.Levels[0] {
		for range 64 {
			if len(out) < t.Size {
				out = append(out, u%2 == 1)
			}
			u /= 2
		}
	}
	return out
}

// plainMay holds t against what its own first level asks for.
func plainMay(t api.Tree) bool {
	if t.Size < 1 || t.Size > 1<<16 || len(t.Levels) == 0 || len(t.Levels[0])*64 < t.Size {
		return false
	}
	return same(t, plainTree(plainBits(t)))
}

func plainSet(bits []bool, from, n int, on bool) []bool {
	out := slices.Clone(bits)
	for i := range out {
		if from >= 0 && n >= 0 && i >= from && i-from < n {
			out[i] = on
		}
	}
	return out
}

func plainFirstZero(bits []bool, from int) (int, bool) {
	for i, b := range bits {
		if from >= 0 && i >= from && !b {
			return i, true
		}
	}
	return 0, false
}

// same takes nil and an empty list for one.
func same(a, b api.Tree) bool {
	return a.Size == b.Size && slices.EqualFunc(a.Levels, b.Levels, slices.Equal[[]uint64])
}

// copyOf shares no way with the package, and keeps nil as it is.
func copyOf(t api.Tree) api.Tree {
	out := api.Tree{Size: t.Size}
	for _, words := range t.Levels {
		out.Levels = append(out.Levels, append([]uint64(nil), words...))
	}
	return out
}

// sizes are those that the document names, with their neighbours.
var sizes = []int{1, 2, 3, 63, 64, 65, 127, 128, 129, 200, 4095, 4096, 4097, 4160, 4161, 8192, 1<<16 - 1, 1 << 16}

// places are bounds of words on each level, their neighbours, some within words, and wrong ones.
var places = []int{least, least + 1, -1 << 32, -4096, -65, -64, -1, 0, 1, 2, 62, 63, 64, 65, 100, 127, 128, 129, 191, 192, 200, 4032, 4095, 4096, 4097, 4160, 8191, 8192, 1<<16 - 65, 1<<16 - 64, 1<<16 - 1, 1 << 16, 1<<16 + 1, 1 << 31, 1 << 32, 1 << 40, 1 << 62, greatest - 63, greatest - 1, greatest}

// patterns are rows of size bits: none set, all, all but one, one alone, full words with a gap, and mixed.
func patterns(size int) [][]bool {
	out := [][]bool{make([]bool, size)}
	add := func(set func(i int) bool) {
		bits := make([]bool, size)
		for i := range bits {
			bits[i] = set(i)
		}
		out = append(out, bits)
	}
	add(func(i int) bool { return true })
	for _, one := range []int{0, 63, 64, size / 2, size - 1} {
		add(func(i int) bool { return i != one })
		add(func(i int) bool { return i == one })
	}
	add(func(i int) bool { return i < size-size/3 })
	add(func(i int) bool { return i >= size/3 })
	add(func(i int) bool { return i/64%3 != 1 })
	add(func(i int) bool { return i*i%7 < 3 })
	return out
}

// P5.1: New at the sizes that the document names: the words of each level, and its last word, worked out by hand; all others are 0.
func TestNew(t *testing.T) {
	for _, x := range []struct {
		size  int
		words []int
		last  []uint64
	}{
		{1, []int{1}, []uint64{all - 1}},
		{2, []int{1}, []uint64{all - 3}},
		{3, []int{1}, []uint64{all - 7}},
		{63, []int{1}, []uint64{1 << 63}},
		{64, []int{1}, []uint64{0}},
		{65, []int{2, 1}, []uint64{all - 1, all - 3}},
		{127, []int{2, 1}, []uint64{1 << 63, all - 3}},
		{128, []int{2, 1}, []uint64{0, all - 3}},
		{129, []int{3, 1}, []uint64{all - 1, all - 7}},
		{4032, []int{63, 1}, []uint64{0, 1 << 63}},
		{4095, []int{64, 1}, []uint64{1 << 63, 0}},
		{4096, []int{64, 1}, []uint64{0, 0}},
		{4097, []int{65, 2, 1}, []uint64{all - 1, all - 1, all - 3}},
		{4160, []int{65, 2, 1}, []uint64{0, all - 1, all - 3}},
		{4161, []int{66, 2, 1}, []uint64{all - 1, all - 3, all - 3}},
		{8192, []int{128, 2, 1}, []uint64{0, 0, all - 3}},
		{65535, []int{1024, 16, 1}, []uint64{1 << 63, 0, all - 65535}},
		{65536, []int{1024, 16, 1}, []uint64{0, 0, all - 65535}},
	} {
		got := New(x.size)
		if got.Size != x.size || len(got.Levels) != len(x.words) {
			t.Errorf("New(%d): size %d, %d levels", x.size, got.Size, len(got.Levels))
			continue
		}
		for k, words := range got.Levels {
			want := make([]uint64, x.words[k])
			want[x.words[k]-1] = x.last[k]
			if !slices.Equal(words, want) {
				t.Errorf("New(%d), level %d: %x, not %x", x.size, k, words, want)
			}
		}
	}
}

// P5.1: a size below 1 or above MaxHeap: nothing.
func TestNewOfWrongSize(t *testing.T) {
	for _, size := range []int{0, -1, -63, -64, -65, least, least + 1, 1<<16 + 1, 1<<16 + 64, 1 << 17, 1 << 22, 1 << 32, 1<<32 + 1, 1 << 62, greatest - 63, greatest - 1, greatest} {
		if got := New(size); !reflect.DeepEqual(got, api.Tree{}) || May(got) {
			t.Errorf("New(%d): %v", size, got)
		}
	}
}

// P5.1: at each size, New is what the promise says plainly of no bit set, and may be.
func TestNewOfEachSize(t *testing.T) {
	check := func(size int) {
		if got := New(size); !same(got, plainTree(make([]bool, size))) || !May(got) {
			t.Fatalf("New(%d): %x", size, got)
		}
	}
	for size := 1; size <= 4300; size++ {
		check(size)
	}
	for size := 1<<16 - 130; size <= 1<<16; size++ {
		check(size)
	}
}

// R3: each New is new memory, level by level.
func TestNewIsNew(t *testing.T) {
	for _, size := range sizes {
		was := copyOf(New(size))
		got := New(size)
		for k := range got.Levels {
			for i := range got.Levels[k] {
				got.Levels[k][i] = 0xabc
			}
			_ = append(got.Levels[k], 99)
			for other := k + 1; other < len(got.Levels); other++ {
				if !slices.Equal(got.Levels[other], was.Levels[other]) {
					t.Fatalf("New(%d): level %d shares memory with level %d", size, other, k)
				}
			}
		}
		if !same(New(size), was) {
			t.Fatalf("New(%d): what was told is told again", size)
		}
	}
}

// P5.1: May of trees that are as said, whatever of their bits is set.
func TestMayOfWhatMayBe(t *testing.T) {
	for _, size := range sizes {
		for i, bits := range patterns(size) {
			if !May(plainTree(bits)) {
				t.Errorf("%d bits, pattern %d: it may be", size, i)
			}
		}
	}
}

// P5.1: with one bit turned, on any level, a tree may be only where it is a bit below Size that no bit above hangs on.
func TestMayWithOneBitTurned(t *testing.T) {
	for _, size := range []int{1, 3, 63, 64, 65, 129, 200, 4095, 4096, 4097, 4161} {
		for _, x := range []api.Tree{New(size), Set(New(size), 0, size, true), Set(New(size), size/3, size/2, true)} {
			for k := range x.Levels {
				for i := range len(x.Levels[k]) * 64 {
					turned := copyOf(x)
					turned.Levels[k][i/64] ^= 1 << (i % 64)
					if want := k == 0 && i < size && tellsNoOther(x, turned, i/64); May(turned) != want {
						t.Fatalf("%d bits: bit %d of level %d turned: %v", size, i, k, !want)
					}
				}
			}
		}
	}
}

// tellsNoOther tells if a level above, if there is one, has the same to tell of word i of both trees.
func tellsNoOther(a, b api.Tree, i int) bool {
	return len(a.Levels) == 1 || (a.Levels[0][i] == all) == (b.Levels[0][i] == all)
}

// P5.1: the same at MaxHeap, held against the promise said plainly, at bits of each level.
func TestMayWithOneBitTurnedAtMaxHeap(t *testing.T) {
	x := Set(New(api.MaxHeap), 64, 5000, true)
	for k, at := range [][]int{{0, 63, 64, 100, 127, 5055, 5056, 5063, 5064, 65472, 65535}, {0, 1, 63, 64, 77, 78, 79, 1022, 1023}, {0, 1, 14, 15, 16, 17, 62, 63}} {
		for _, i := range at {
			turned := copyOf(x)
			turned.Levels[k][i/64] ^= 1 << (i % 64)
			if got, want := May(turned), plainMay(turned); got != want || k > 0 && got {
				t.Errorf("bit %d of level %d: %v, not %v", i, k, got, want)
			}
		}
	}
}

// P5.1: May of no tree with a level or a word too many or too few, or another Size.
func TestMayOfWrongShape(t *testing.T) {
	for _, size := range sizes {
		for _, x := range []api.Tree{New(size), Set(New(size), 0, size, true)} {
			for i, wrong := range wrongShapes(x) {
				if May(wrong) {
					t.Errorf("%d bits, %d: it may not be", size, i)
				}
			}
			if !May(x) {
				t.Errorf("%d bits: it may be", size)
			}
		}
	}
}

// wrongShapes are trees that are x but for one level or word too many or too few.
func wrongShapes(x api.Tree) []api.Tree {
	var out []api.Tree
	add := func(levels ...[]uint64) { out = append(out, copyOf(api.Tree{Size: x.Size, Levels: levels})) }
	add()
	add(append(slices.Clone(x.Levels), nil)...)
	for _, more := range []uint64{0, 1, all - 1, all} {
		add(append(slices.Clone(x.Levels), []uint64{more})...)
		add(append([][]uint64{{more}}, x.Levels...)...)
	}
	add(x.Levels[:len(x.Levels)-1]...)
	add(x.Levels[1:]...)
	for k, words := range x.Levels {
		turn := func(words []uint64) {
			levels := slices.Clone(x.Levels)
			levels[k] = words
			add(levels...)
		}
		turn(nil)
		turn(words[:len(words)-1])
		turn(words[1:])
		turn(append(slices.Clone(words), 0))
		turn(append(slices.Clone(words), all))
		add(slices.Delete(slices.Clone(x.Levels), k, k+1)...)
	}
	return out
}

// P5.1: May of another Size: the words of x may not fit it, or bits beyond it not be set.
func TestMayOfAnotherSize(t *testing.T) {
	for _, x := range []struct {
		of, size int
		may      bool
	}{
		{200, 0, false}, {200, -1, false}, {200, -200, false}, {200, 199, false}, {200, 201, true}, {200, 256, true}, {200, 257, false}, {200, 193, false}, {200, 192, false}, {200, 300, false},
		{200, least, false}, {200, greatest, false}, {200, 1 << 16, false}, {200, 1<<16 + 1, false}, {200, 1 << 40, false}, {200, 200 + 1<<32, false},
		{1, 0, false}, {1, 2, true}, {1, 64, true}, {1, 65, false}, {64, 63, false}, {64, 65, false}, {65, 64, false}, {65, 66, true}, {65, 128, true}, {4097, 4096, false}, {4096, 4097, false},
		{1 << 16, 1<<16 + 1, false}, {1 << 16, 1<<16 - 1, false}, {1<<16 - 1, 1 << 16, true},
	} {
		if turned := (api.Tree{Size: x.size, Levels: New(x.of).Levels}); May(turned) != x.may {
			t.Errorf("of %d, size %d: %v", x.of, x.size, !x.may)
		}
	}
	// As many words as 2^16 + 1 bits need, all as they would be: still above MaxHeap.
	if May(plainTree(make([]bool, 1<<16+1))) || May(plainTree(make([]bool, 1<<18+1))) {
		t.Error("it may not be")
	}
}

// P5.1: May of nothing, and of levels of nothing.
func TestMayOfNothing(t *testing.T) {
	for i, x := range []api.Tree{{}, {Size: 1}, {Size: 64}, {Size: -1}, {Size: 1 << 40}, {Size: greatest}, {Size: least}, {Levels: [][]uint64{}}, {Levels: [][]uint64{{all}}}, {Levels: [][]uint64{{}}}, {Levels: [][]uint64{nil}}, {Size: 1, Levels: [][]uint64{}}, {Size: 1, Levels: [][]uint64{nil}}, {Size: 1, Levels: [][]uint64{{}}}, {Size: 65, Levels: [][]uint64{nil, nil}}, {Size: 65, Levels: [][]uint64{nil, {all - 3}}}, {Size: 65, Levels: [][]uint64{{0, all - 1}, {}}}} {
		if May(x) {
			t.Errorf("%d: it may not be", i)
		}
	}
}

// P5.1: Has at the first bit, at the last one below Size, at Size, in the rest of the last word, and at wrong inputs.
func TestHas(t *testing.T) {
	for _, size := range sizes {
		none, full := New(size), Set(New(size), 0, size, true)
		for _, i := range []int{0, size / 2, size - 1} {
			if Has(none, i) || !Has(full, i) {
				t.Errorf("%d bits: %d", size, i)
			}
			if one := Set(none, i, 1, true); !Has(one, i) || i > 0 && Has(one, i-1) || Has(one, i+1) {
				t.Errorf("%d bits: %d alone", size, i)
			}
		}
		// The rest of the last word is set, but there is no such bit.
		for i := size; i < size+200; i++ {
			if Has(none, i) || Has(full, i) {
				t.Errorf("%d bits: %d is none", size, i)
			}
		}
		for _, i := range places {
			if Has(full, i) != (i >= 0 && i < size) || Has(none, i) {
				t.Errorf("%d bits: %d", size, i)
			}
		}
	}
}

// P5.1: Set of three words, on and off, worked out by hand: the first level and the one above.
func TestSet(t *testing.T) {
	const above = all - 7
	for _, x := range []struct {
		from, n int
		want    [3]uint64
		full    uint64
	}{
		{3, 2, [3]uint64{0b11000, 0, 0}, 0}, {0, 1, [3]uint64{1, 0, 0}, 0}, {63, 1, [3]uint64{1 << 63, 0, 0}, 0},
		{0, 63, [3]uint64{all >> 1, 0, 0}, 0}, {1, 63, [3]uint64{all - 1, 0, 0}, 0}, {0, 64, [3]uint64{all, 0, 0}, 1}, {0, 65, [3]uint64{all, 1, 0}, 1},
		{64, 1, [3]uint64{0, 1, 0}, 0}, {64, 64, [3]uint64{0, all, 0}, 2}, {65, 62, [3]uint64{0, all>>1 - 1, 0}, 0}, {62, 4, [3]uint64{3 << 62, 3, 0}, 0},
		{60, 100, [3]uint64{15 << 60, all, 0xffffffff}, 2}, {0, 128, [3]uint64{all, all, 0}, 3}, {0, 127, [3]uint64{all, all >> 1, 0}, 1}, {64, 128, [3]uint64{0, all, all}, 6},
		{0, 192, [3]uint64{all, all, all}, 7}, {1, 190, [3]uint64{all - 1, all, all >> 1}, 2}, {128, 64, [3]uint64{0, 0, all}, 4}, {191, 1, [3]uint64{0, 0, 1 << 63}, 0},
		{0, 193, [3]uint64{all, all, all}, 7}, {0, greatest, [3]uint64{all, all, all}, 7}, {3, greatest, [3]uint64{all - 7, all, all}, 6}, {130, 63, [3]uint64{0, 0, all - 3}, 0}, {191, 2, [3]uint64{0, 0, 1 << 63}, 0}, {191, greatest, [3]uint64{0, 0, 1 << 63}, 0},
		{0, 0, [3]uint64{}, 0}, {64, 0, [3]uint64{}, 0}, {191, 0, [3]uint64{}, 0}, {192, 0, [3]uint64{}, 0}, {192, 1, [3]uint64{}, 0}, {193, 5, [3]uint64{}, 0}, {1 << 32, 1, [3]uint64{}, 0}, {greatest, 1, [3]uint64{}, 0}, {greatest, greatest, [3]uint64{}, 0},
		{-1, 5, [3]uint64{}, 0}, {-1, greatest, [3]uint64{}, 0}, {-64, 192, [3]uint64{}, 0}, {5, -1, [3]uint64{}, 0}, {0, -1, [3]uint64{}, 0}, {-1, -1, [3]uint64{}, 0}, {200, -100, [3]uint64{}, 0},
		{least, 5, [3]uint64{}, 0}, {least, greatest, [3]uint64{}, 0}, {5, least, [3]uint64{}, 0}, {greatest, least, [3]uint64{}, 0}, {least, least, [3]uint64{}, 0},
	} {
		on := api.Tree{Size: 192, Levels: [][]uint64{x.want[:], {above | x.full}}}
		if got := Set(New(192), x.from, x.n, true); !same(got, on) {
			t.Errorf("Set on from %d, %d: %x, not %x", x.from, x.n, got, on)
		}
		// Each word of which a bit is taken away is no longer full.
		left, stays := []uint64{^x.want[0], ^x.want[1], ^x.want[2]}, uint64(above)
		for i, u := range x.want {
			if u == 0 {
				stays |= 1 << i
			}
		}
		off := api.Tree{Size: 192, Levels: [][]uint64{left, {stays}}}
		full := api.Tree{Size: 192, Levels: [][]uint64{{all, all, all}, {all}}}
		if got := Set(full, x.from, x.n, false); !same(got, off) {
			t.Errorf("Set off from %d, %d: %x, not %x", x.from, x.n, got, off)
		}
	}
}

// P5.1: bits of the highest level turn when the last bit below them is set, and turn back when any is taken away.
func TestSetTurnsAllLevels(t *testing.T) {
	x := Set(New(8192), 0, 4095, true)
	if x.Levels[0][63] != all>>1 || x.Levels[1][0] != all>>1 || x.Levels[2][0] != all-3 {
		t.Errorf("4095 set: %x %x", x.Levels[1], x.Levels[2])
	}
	x = Set(x, 4095, 1, true)
	if x.Levels[0][63] != all || x.Levels[1][0] != all || x.Levels[2][0] != all-2 {
		t.Errorf("4096 set: %x %x", x.Levels[1], x.Levels[2])
	}
	x = Set(x, 4096, 4096, true)
	if x.Levels[1][1] != all || x.Levels[2][0] != all {
		t.Errorf("all set: %x %x", x.Levels[1], x.Levels[2])
	}
	x = Set(x, 4100, 1, false)
	if x.Levels[0][64] != all-16 || x.Levels[1][0] != all || x.Levels[1][1] != all-1 || x.Levels[2][0] != all-2 {
		t.Errorf("one taken away: %x %x", x.Levels[1], x.Levels[2])
	}
}

// P5.1: bits beyond Size stay set, whatever is taken away; those below fill the last word.
func TestSetLeavesTheRest(t *testing.T) {
	for _, size := range sizes {
		full := Set(New(size), 0, size, true)
		for k, words := range full.Levels {
			for i, u := range words {
				if u != all {
					t.Fatalf("%d bits, all set: word %d of level %d is %x", size, i, k, u)
				}
			}
		}
		for _, n := range []int{size, size + 1, size + 64, greatest} {
			if got := Set(full, 0, n, false); !same(got, New(size)) {
				t.Errorf("%d bits, %d taken away: %x", size, n, got)
			}
		}
		if got := Set(full, size, 64, false); !same(got, full) {
			t.Errorf("%d bits, those beyond taken away: %x", size, got)
		}
	}
}

// P5.1: FirstZero at ordinary inputs, at its edges and at wrong inputs, worked out by hand.
func TestFirstZero(t *testing.T) {
	some := Set(Set(New(200), 60, 10, true), 128, 1, true)
	none, full := New(200), Set(New(200), 0, 200, true)
	gap := Set(Set(New(1<<16), 0, 1<<16, true), 40000, 1, false)
	last := Set(Set(New(1<<16), 0, 1<<16, true), 1<<16-1, 1, false)
	first := Set(New(4097), 1, 4096, true)
	for _, x := range []struct {
		t          api.Tree
		from, want int
		ok         bool
	}{
		{some, 0, 0, true}, {some, 59, 59, true}, {some, 60, 70, true}, {some, 63, 70, true}, {some, 64, 70, true}, {some, 69, 70, true}, {some, 70, 70, true}, {some, 127, 127, true}, {some, 128, 129, true}, {some, 199, 199, true}, {some, 200, 0, false}, {some, 201, 0, false}, {some, 256, 0, false},
		{none, 0, 0, true}, {none, 63, 63, true}, {none, 64, 64, true}, {none, 199, 199, true}, {none, 200, 0, false}, {none, 255, 0, false}, {none, 256, 0, false},
		{full, 0, 0, false}, {full, 64, 0, false}, {full, 199, 0, false}, {full, 200, 0, false}, {full, 255, 0, false},
		{gap, 0, 40000, true}, {gap, 63, 40000, true}, {gap, 4096, 40000, true}, {gap, 39999, 40000, true}, {gap, 40000, 40000, true}, {gap, 40001, 0, false}, {gap, 65535, 0, false}, {gap, 65536, 0, false},
		{last, 0, 65535, true}, {last, 61440, 65535, true}, {last, 65472, 65535, true}, {last, 65534, 65535, true}, {last, 65535, 65535, true}, {last, 65536, 0, false},
		{first, 0, 0, true}, {first, 1, 0, false}, {first, 63, 0, false}, {first, 4095, 0, false}, {first, 4096, 0, false},
		{New(4096), 4095, 4095, true}, {New(4096), 4096, 0, false}, {New(1), 0, 0, true}, {New(1), 1, 0, false}, {Set(New(1), 0, 1, true), 0, 0, false}, {Set(New(64), 0, 64, true), 0, 0, false}, {Set(New(4096), 0, 4096, true), 5, 0, false},
		{none, -1, 0, false}, {none, -64, 0, false}, {none, least, 0, false}, {none, least + 1, 0, false}, {none, greatest, 0, false}, {none, greatest - 63, 0, false}, {none, 1 << 32, 0, false}, {none, 1 << 62, 0, false},
	} {
		if got, ok := FirstZero(x.t, x.from); got != x.want || ok != x.ok {
			t.Errorf("%d bits, from %d: %d %v, not %d %v", x.t.Size, x.from, got, ok, x.want, x.ok)
		}
	}
}

// P5.1: the chapter's example.
func TestExample(t *testing.T) {
	if got, want := New(3), (api.Tree{Size: 3, Levels: [][]uint64{{all - 7}}}); !reflect.DeepEqual(got, want) {
		t.Errorf("%x", got)
	}
}

// P5.1: held against the same promise said bit by bit, at all sizes, patterns and places.
func TestAsSaidPlainly(t *testing.T) {
	for _, size := range sizes {
		near := append(slices.Clone(places), size-65, size-64, size-2, size-1, size, size+1)
		for _, bits := range patterns(size) {
			x := plainTree(bits)
			for i, b := range bits {
				if Has(x, i) != b {
					t.Fatalf("%d bits: %d: %v", size, i, !b)
				}
			}
			for _, from := range near {
				got, ok := FirstZero(x, from)
				if want, wantOK := plainFirstZero(bits, from); got != want || ok != wantOK {
					t.Fatalf("%d bits, first zero from %d: %d %v, not %d %v", size, from, got, ok, want, wantOK)
				}
				if size <= 200 {
					for _, n := range near {
						checkSet(t, bits, from, n)
					}
				}
			}
		}
	}
}

// P5.1: the same of Set for trees of two and three levels, at their bounds and within words.
func TestSetOfManyAsSaidPlainly(t *testing.T) {
	for _, size := range []int{4096, 4097, 5000, 8192} {
		near := []int{-1, 0, 1, 63, 64, 65, 100, 4032, 4095, 4096, 4097, size - 64, size - 1, size, size + 1, greatest}
		for _, bits := range patterns(size) {
			for _, from := range near {
				for _, n := range near {
					checkSet(t, bits, from, n)
				}
			}
		}
	}
	for _, at := range [][2]int{{0, 1 << 16}, {1, 1 << 16}, {4096, 4096}, {4000, 60000}, {1<<16 - 1, 9}, {100, 1<<16 - 101}} {
		for _, bits := range patterns(1 << 16) {
			checkSet(t, bits, at[0], at[1])
		}
	}
}

// P5.1: all small from and n.
func TestSmallSetAsSaidPlainly(t *testing.T) {
	for _, size := range []int{5, 66, 131} {
		for _, bits := range [][]bool{patterns(size)[0], patterns(size)[1], patterns(size)[14]} {
			for from := -2; from <= size+2; from++ {
				for n := -2; n <= size+2; n++ {
					checkSet(t, bits, from, n)
				}
			}
		}
	}
}

func checkSet(t *testing.T, bits []bool, from, n int) {
	t.Helper()
	for _, on := range []bool{true, false} {
		x := plainTree(bits)
		got, want := Set(x, from, n, on), plainTree(plainSet(bits, from, n, on))
		if !same(got, want) || !May(got) {
			t.Fatalf("%d bits: Set from %d, %d, %v", len(bits), from, n, on)
		}
		if !same(x, plainTree(bits)) {
			t.Fatalf("%d bits: Set from %d, %d, %v has changed what it was handed", len(bits), from, n, on)
		}
	}
}

// What follows: it is a row of bits, through many changes one behind another.
func TestIsARow(t *testing.T) {
	for _, size := range []int{1, 64, 300, 4097, 10000} {
		x, l := New(size), row.New(size)
		u := uint64(0x9e3779b97f4a7c15)
		for step := range 400 {
			u ^= u << 13
			u ^= u >> 7
			u ^= u << 17
			from, n, on := int(u>>8%uint64(size)), int(u>>40%uint64(size/3+2)), u%5 < 3
			x = Set(x, from, n, on)
			l = row.Set(l, from, min(n, size-from), on)
			if !May(x) {
				t.Fatalf("%d bits, step %d: it may not be", size, step)
			}
			for _, i := range []int{0, from - 1, from, from + n/2, from + n, size - 1, size} {
				got, ok := FirstZero(x, i)
				want, wantOK := row.FirstZero(l, size, i)
				if got != want || ok != wantOK || i < size && Has(x, i) != row.Has(l, i) {
					t.Fatalf("%d bits, step %d, bit %d: %d %v, not %d %v", size, step, i, got, ok, want, wantOK)
				}
			}
		}
	}
}

// oddTrees are many that may not be, with levels and words missing, too many, or at odds with each other.
func oddTrees() []api.Tree {
	out := []api.Tree{
		{}, {Size: 1}, {Size: 200}, {Size: -1}, {Size: least}, {Size: greatest}, {Levels: [][]uint64{}}, {Size: 5, Levels: [][]uint64{nil, nil, nil}}, {Size: 200, Levels: [][]uint64{nil, {0}}},
		{Size: greatest, Levels: [][]uint64{{0}, {0}, {0}}}, {Size: greatest, Levels: [][]uint64{{all, all}, {all}, {all}, {0}}}, {Size: 1 << 40, Levels: [][]uint64{{all}, {1}}},
		{Size: 200, Levels: [][]uint64{{all, all, all, all}, {0}}}, {Size: 200, Levels: [][]uint64{{all}, {1}}}, {Size: 200, Levels: [][]uint64{{all, 0, 0, 0}, {all}}}, {Size: 130, Levels: [][]uint64{{all, all, 3}, {all - 4}}},
		{Size: 4097, Levels: [][]uint64{{all}, {all, 0}, {1}}}, {Size: 1, Levels: [][]uint64{{1}}}, {Size: 0, Levels: [][]uint64{{0}}}, {Size: -5, Levels: [][]uint64{{0}}},
	}
	many := make([][]uint64, 300)
	for i := range many {
		many[i] = []uint64{all}
	}
	many[299] = []uint64{0, 0, 0}
	out = append(out, api.Tree{Size: greatest, Levels: many}, plainTree(make([]bool, 1<<16+1)))
	for _, size := range []int{1, 65, 4097} {
		for _, x := range []api.Tree{New(size), Set(New(size), 0, size, true)} {
			out = append(out, wrongShapes(x)...)
			for _, other := range []int{0, size - 1, size + 64, greatest, least} {
				out = append(out, api.Tree{Size: other, Levels: copyOf(x).Levels})
			}
		}
	}
	return out
}

// R1, R2, R3: no call panics, whatever tree it is handed; a zero beside a no; nothing handed in is changed.
func TestOddTreesEnd(t *testing.T) {
	for k, x := range oddTrees() {
		was := copyOf(x)
		for _, i := range places {
			Has(x, i)
			if at, ok := FirstZero(x, i); !ok && at != 0 || ok && (at < i || at >= x.Size) {
				t.Errorf("%d: from %d: %d %v", k, i, at, ok)
			}
			for _, n := range places {
				Set(x, i, n, false)
				if got := Set(x, i, n, true); (i < 0 || n < 0) && !same(got, x) {
					t.Errorf("%d: from %d, %d: it has not come back as it was", k, i, n)
				}
			}
		}
		if May(x); !same(x, was) {
			t.Errorf("%d: it was changed", k)
		}
	}
}

// P5.1: words and levels in spare room are not there.
func TestSpareRoomIsNotThere(t *testing.T) {
	whole := Set(New(5000), 0, 5000, true)
	x := api.Tree{Size: 5000, Levels: slices.Clone(whole.Levels)}
	x.Levels[0] = x.Levels[0][:2]
	if May(x) || Has(x, 4999) || len(Set(x, 0, 5000, false).Levels[0]) != 2 {
		t.Error("a word beyond the last is taken for one that is there")
	}
	x = api.Tree{Size: 5000, Levels: whole.Levels[:2]}
	if May(x) || len(Set(x, 0, 5000, false).Levels) != 2 {
		t.Error("a level beyond the last is taken for one that is there")
	}
}

// R3: what is handed in is not changed, its spare room neither, and no answer shares memory with it.
func TestHandedInIsNotChanged(t *testing.T) {
	fill := Set(New(4200), 100, 4000, true)
	for _, from := range places {
		for _, n := range places {
			for _, on := range []bool{true, false} {
				x, spare := inSpareRoom(fill)
				wasSpare := copyOf(api.Tree{Levels: spare}).Levels
				got := Set(x, from, n, on)
				Has(x, from)
				FirstZero(x, from)
				May(x)
				spoil(got)
				if !same(x, fill) || !slices.EqualFunc(spare, wasSpare, slices.Equal[[]uint64]) {
					t.Fatalf("from %d, %d, %v", from, n, on)
				}
			}
		}
	}
}

// inSpareRoom tells t with words behind the last of each level and a level behind the last, and all of these lists whole.
func inSpareRoom(t api.Tree) (api.Tree, [][]uint64) {
	x := api.Tree{Size: t.Size}
	spare := make([][]uint64, 0, len(t.Levels)+1)
	for _, words := range t.Levels {
		spare = append(spare, append(slices.Clone(words), 7, 0, all))
	}
	spare = append(spare, []uint64{1, 2, 3})
	x.Levels = slices.Clone(spare)[:len(t.Levels)]
	for k, words := range t.Levels {
		x.Levels[k] = spare[k][:len(words)]
	}
	return x, spare
}

// spoil writes all over t and its spare room.
func spoil(t api.Tree) {
	for k, words := range t.Levels {
		for i := range words[:cap(words)] {
			words[:cap(words)][i] = 0xbad
		}
		t.Levels[k] = nil
	}
	_ = append(t.Levels, []uint64{0xbad})
}

// R3: no two levels of what Set tells share memory, not even where those handed in do.
func TestLevelsLieApart(t *testing.T) {
	x := Set(New(4200), 0, 4200, true)
	x.Levels[2] = x.Levels[1][:1]
	for _, from := range []int{-1, 0, 5, 4200} {
		got := Set(x, from, 1, false)
		got.Levels[2][0] = 0xbad
		if got.Levels[1][0] == 0xbad || x.Levels[1][0] == 0xbad {
			t.Errorf("from %d", from)
		}
	}
}

// R4: the same is told again.
func TestSameAgain(t *testing.T) {
	x := Set(New(5000), 63, 4500, true)
	for range 3 {
		if !same(Set(New(5000), 63, 4500, true), x) || !May(x) || !Has(x, 63) || Has(x, 62) {
			t.Error("another answer")
		}
		if at, ok := FirstZero(x, 63); at != 4563 || !ok {
			t.Errorf("%d %v", at, ok)
		}
	}
}
