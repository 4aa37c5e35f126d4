package rank

import (
	"slices"
	"testing"

	"hodman/api"
	"hodman/tree"
)

const (
	greatest = 1<<63 - 1
	least    = -1 << 63
	all      = 1<<64 - 1
)

// sizes are those that the document names, with their neighbours.
var sizes = []int{1, 2, 3, 62, 63, 64, 65, 127, 128, 129, 200, 4095, 4096, 4097, 4160, 8192, api.MaxHeap - 1, api.MaxHeap}

// places are bounds of words, their neighbours, some within words, and wrong ones.
var places = []int{least, least + 1, -1 << 32, -4096, -65, -64, -63, -1, 0, 1, 2, 31, 62, 63, 64, 65, 100, 127, 128, 129, 191, 192, 200, 255, 256, 4032, 4095, 4096, 4097, 4160, 8191, 8192, 1<<16 - 65, 1<<16 - 64, 1<<16 - 1, 1 << 16, 1<<16 + 1, 1 << 31, 1 << 32, 1 << 40, 1 << 62, greatest - 63, greatest - 1, greatest}

// patterns are rows of size bits: none set, all, all but one, one alone, the lower and the upper part, full words with a gap, the bounds of words, and mixed.
func patterns(size int) [][]bool {
	var out [][]bool
	add := func(set func(i int) bool) {
		bits := make([]bool, size)
		for i := range bits {
			bits[i] = set(i)
		}
		out = append(out, bits)
	}
	add(func(i int) bool { return false })
	add(func(i int) bool { return true })
	for _, one := range []int{0, 63, 64, size / 2, size - 1} {
		add(func(i int) bool { return i != one })
		add(func(i int) bool { return i == one })
	}
	add(func(i int) bool { return i < size-size/3 })
	add(func(i int) bool { return i >= size/3 })
	add(func(i int) bool { return i/64%3 != 1 })
	add(func(i int) bool { return i%64 == 0 || i%64 == 63 })
	add(func(i int) bool { return i*i%7 < 3 })
	return out
}

// wordsOf adds up the powers of two of the bits that are set; those beyond the last one, up to whole words, are set.
func wordsOf(bits []bool) []uint64 {
	var out []uint64
	power := uint64(1)
	for i := 0; i < len(bits) || i%64 != 0; i++ {
		if i%64 == 0 {
			out = append(out, 0)
			power = 1
		}
		if i >= len(bits) || bits[i] {
			out[i/64] += power
		}
		power *= 2
	}
	return out
}

// treeOf is what api.Tree says of these bits, level by level, without a shift.
func treeOf(bits []bool) api.Tree {
	t := api.Tree{Size: len(bits)}
	for {
		words := wordsOf(bits)
		t.Levels = append(t.Levels, words)
		if len(words) == 1 {
			return t
		}
		bits = make([]bool, len(words))
		for i, u := range words {
			bits[i] = u == all
		}
	}
}

// placesOf tells which bits are set, rising: the how-many-th is where it stands in this list.
func placesOf(bits []bool) []int {
	var out []int
	for i, b := range bits {
		if b {
			out = append(out, i)
		}
	}
	return out
}

// run tells a tree of size bits of which those from from on, n of them, are set.
func run(size, from, n int) api.Tree {
	return tree.Set(tree.New(size), from, n, true)
}

// some has bits 3, 4, 6, 60 to 69, 128 and 199 of 200 set.
func some() api.Tree {
	t := tree.Set(run(200, 60, 10), 3, 2, true)
	for _, i := range []int{6, 128, 199} {
		t = tree.Set(t, i, 1, true)
	}
	return t
}

// P6.1: Below at ordinary inputs, at its edges and at wrong inputs, worked out by hand.
func TestBelow(t *testing.T) {
	for _, x := range []struct {
		t       api.Tree
		i, want int
	}{
		{some(), 0, 0}, {some(), 1, 0}, {some(), 3, 0}, {some(), 4, 1}, {some(), 5, 2}, {some(), 6, 2}, {some(), 7, 3}, {some(), 60, 3}, {some(), 63, 6}, {some(), 64, 7}, {some(), 65, 8}, {some(), 70, 13}, {some(), 127, 13}, {some(), 128, 13}, {some(), 129, 14}, {some(), 192, 14},
		{some(), 199, 14}, {some(), 200, 15}, {some(), 201, 15}, {some(), 255, 15}, {some(), 256, 15}, {some(), 257, 15}, {some(), 1 << 32, 15}, {some(), greatest, 15}, {some(), greatest - 1, 15},
		{some(), -1, 0}, {some(), -64, 0}, {some(), -200, 0}, {some(), least, 0}, {some(), least + 1, 0},
		{tree.New(3), 0, 0}, {tree.New(3), 3, 0}, {tree.New(3), 4, 0}, {tree.New(3), 63, 0}, {tree.New(3), 64, 0}, {tree.New(3), 65, 0}, {tree.New(3), greatest, 0},
		{run(3, 0, 3), 1, 1}, {run(3, 0, 3), 3, 3}, {run(3, 0, 3), 4, 3}, {run(3, 0, 3), 64, 3}, {run(3, 0, 3), greatest, 3}, {run(3, 0, 3), -1, 0},
		{run(1, 0, 1), 0, 0}, {run(1, 0, 1), 1, 1}, {run(1, 0, 1), 2, 1}, {run(1, 0, 1), 64, 1}, {tree.New(1), 1, 0}, {tree.New(1), 64, 0},
		{run(64, 63, 1), 63, 0}, {run(64, 63, 1), 64, 1}, {run(64, 63, 1), 65, 1}, {run(65, 64, 1), 64, 0}, {run(65, 64, 1), 65, 1}, {run(65, 64, 1), 128, 1}, {tree.New(65), 66, 0}, {tree.New(65), 128, 0}, {tree.New(65), 129, 0},
		{run(4097, 0, 4097), 4096, 4096}, {run(4097, 0, 4097), 4097, 4097}, {run(4097, 0, 4097), 4098, 4097}, {run(4097, 0, 4097), 4160, 4097}, {tree.New(4097), 4160, 0},
		{run(api.MaxHeap, 0, api.MaxHeap), 1<<16 - 1, 1<<16 - 1}, {run(api.MaxHeap, 0, api.MaxHeap), 1 << 16, 1 << 16}, {run(api.MaxHeap, 0, api.MaxHeap), 1<<16 + 1, 1 << 16}, {tree.New(api.MaxHeap), greatest, 0}, {run(api.MaxHeap, 40000, 1), 40000, 0}, {run(api.MaxHeap, 40000, 1), 40001, 1},
		{api.Tree{}, 0, 0}, {api.Tree{}, 1, 0}, {api.Tree{}, -1, 0}, {api.Tree{}, greatest, 0}, {api.Tree{}, least, 0},
	} {
		if got := Below(x.t, x.i); got != x.want {
			t.Errorf("%d bits, below %d: %d, not %d", x.t.Size, x.i, got, x.want)
		}
	}
}

// P6.1: Nth at ordinary inputs, at its edges and at wrong inputs, worked out by hand; R2: 0 beside a no.
func TestNth(t *testing.T) {
	for _, x := range []struct {
		t       api.Tree
		n, want int
		ok      bool
	}{
		{some(), 0, 3, true}, {some(), 1, 4, true}, {some(), 2, 6, true}, {some(), 3, 60, true}, {some(), 6, 63, true}, {some(), 7, 64, true}, {some(), 12, 69, true}, {some(), 13, 128, true}, {some(), 14, 199, true},
		{some(), 15, 0, false}, {some(), 16, 0, false}, {some(), 64, 0, false}, {some(), 200, 0, false}, {some(), 1 << 32, 0, false}, {some(), greatest, 0, false}, {some(), greatest - 1, 0, false},
		{some(), -1, 0, false}, {some(), -15, 0, false}, {some(), -64, 0, false}, {some(), least, 0, false}, {some(), least + 1, 0, false},
		{tree.New(3), 0, 0, false}, {tree.New(3), 1, 0, false}, {tree.New(3), 61, 0, false}, {tree.New(3), -1, 0, false}, {tree.New(65), 0, 0, false}, {tree.New(4096), 0, 0, false}, {tree.New(api.MaxHeap), 0, 0, false},
		{run(3, 0, 3), 0, 0, true}, {run(3, 0, 3), 2, 2, true}, {run(3, 0, 3), 3, 0, false}, {run(3, 0, 3), 63, 0, false}, {run(3, 2, 1), 0, 2, true}, {run(3, 2, 1), 1, 0, false},
		{run(1, 0, 1), 0, 0, true}, {run(1, 0, 1), 1, 0, false}, {tree.New(1), 0, 0, false},
		{run(63, 0, 63), 62, 62, true}, {run(63, 0, 63), 63, 0, false}, {run(64, 0, 64), 63, 63, true}, {run(64, 0, 64), 64, 0, false}, {run(65, 0, 65), 63, 63, true}, {run(65, 0, 65), 64, 64, true}, {run(65, 0, 65), 65, 0, false}, {run(65, 64, 1), 0, 64, true}, {run(65, 64, 1), 1, 0, false},
		{run(4097, 0, 4097), 4095, 4095, true}, {run(4097, 0, 4097), 4096, 4096, true}, {run(4097, 0, 4097), 4097, 0, false},
		{run(api.MaxHeap, 0, api.MaxHeap), 0, 0, true}, {run(api.MaxHeap, 0, api.MaxHeap), 1<<16 - 1, 1<<16 - 1, true}, {run(api.MaxHeap, 0, api.MaxHeap), 1 << 16, 0, false}, {run(api.MaxHeap, 40000, 2), 0, 40000, true}, {run(api.MaxHeap, 40000, 2), 1, 40001, true}, {run(api.MaxHeap, 40000, 2), 2, 0, false},
		{api.Tree{}, 0, 0, false}, {api.Tree{}, 1, 0, false}, {api.Tree{}, -1, 0, false}, {api.Tree{}, greatest, 0, false}, {api.Tree{}, least, 0, false},
	} {
		if got, ok := Nth(x.t, x.n); got != x.want || ok != x.ok {
			t.Errorf("%d bits, the %d-th: %d %v, not %d %v", x.t.Size, x.n, got, ok, x.want, x.ok)
		}
	}
}

// P6.1: Zeros of some, and of api.Tree{}.
func TestZeros(t *testing.T) {
	for _, x := range []struct {
		t    api.Tree
		want int
	}{
		{some(), 185}, {run(3, 0, 2), 1}, {run(3, 1, 1), 2}, {run(65, 64, 1), 64}, {run(65, 0, 64), 1}, {run(4097, 4096, 1), 4096}, {run(api.MaxHeap, 1, 1<<16-2), 2}, {api.Tree{}, 0},
	} {
		if got := Zeros(x.t); got != x.want {
			t.Errorf("%d bits: %d, not %d", x.t.Size, got, x.want)
		}
	}
}

// P6.1: Zeros with none set, with all set, with one set, and with all but one, at each size that the document names.
func TestZerosOfEachSize(t *testing.T) {
	for _, size := range sizes {
		full := run(size, 0, size)
		if none, every := Zeros(tree.New(size)), Zeros(full); none != size || every != 0 {
			t.Errorf("%d bits: %d with none set, %d with all", size, none, every)
		}
		for _, i := range []int{0, size / 2, size - 1} {
			if one, but := Zeros(run(size, i, 1)), Zeros(tree.Set(full, i, 1, false)); one != size-1 || but != 1 {
				t.Errorf("%d bits: %d with %d set, %d with all others", size, one, i, but)
			}
		}
	}
}

// P6.1: the chapter's example.
func TestExample(t *testing.T) {
	if got := Below(api.Tree{}, 1); got != 0 {
		t.Errorf("below 1 of no tree: %d", got)
	}
	if got := Below(run(100, 0, 100), 0); got != 0 {
		t.Errorf("below 0: %d", got)
	}
}

// P6.1: held against the same promise said bit by bit, at all bits, all how-many-ths and all places.
func TestAsSaidPlainly(t *testing.T) {
	for _, size := range []int{1, 2, 3, 62, 63, 64, 65, 127, 128, 129, 200, 4095, 4096, 4097} {
		for k, bits := range patterns(size) {
			x, set := treeOf(bits), placesOf(bits)
			if !tree.May(x) {
				t.Fatalf("%d bits, pattern %d: it may not be", size, k)
			}
			for i := range size + 130 {
				checkBelow(t, x, set, i)
			}
			for n := range len(set) + 130 {
				checkNth(t, x, set, n)
			}
			checkPlaces(t, x, set)
		}
	}
}

// P6.1: the same for the greatest trees, at some places.
func TestGreatAsSaidPlainly(t *testing.T) {
	for _, size := range []int{4160, 8192, 10000, api.MaxHeap - 1, api.MaxHeap} {
		for _, bits := range patterns(size) {
			x, set := treeOf(bits), placesOf(bits)
			for i := 0; i <= size; i += 61 {
				checkBelow(t, x, set, i)
			}
			for n := 0; n < len(set); n += 61 {
				checkNth(t, x, set, n)
			}
			checkPlaces(t, x, set)
		}
	}
}

// checkPlaces asks at all places, wrong ones too, and around Size and around as many as are set.
func checkPlaces(t *testing.T, x api.Tree, set []int) {
	t.Helper()
	near := slices.Clone(places)
	for by := -66; by <= 66; by++ {
		near = append(near, x.Size+by, len(set)+by)
	}
	for _, i := range near {
		checkBelow(t, x, set, i)
		checkNth(t, x, set, i)
	}
	if got, want := Zeros(x), x.Size-len(set); got != want {
		t.Fatalf("%d bits: %d zeros, not %d", x.Size, got, want)
	}
}

func checkBelow(t *testing.T, x api.Tree, set []int, i int) {
	t.Helper()
	// Where i would stand in the list of those that are set is how many there are below it.
	want, _ := slices.BinarySearch(set, i)
	if got := Below(x, i); got != want {
		t.Fatalf("%d bits, below %d: %d, not %d", x.Size, i, got, want)
	}
}

func checkNth(t *testing.T, x api.Tree, set []int, n int) {
	t.Helper()
	want, wantOK := 0, n >= 0 && n < len(set)
	if wantOK {
		want = set[n]
	}
	if got, ok := Nth(x, n); got != want || ok != wantOK {
		t.Fatalf("%d bits, the %d-th: %d %v, not %d %v", x.Size, n, got, ok, want, wantOK)
	}
}

// What follows: Below and Nth undo one another, through many changes one behind another; Zeros counts what Below does not.
func TestUndoOneAnother(t *testing.T) {
	for _, size := range []int{1, 63, 64, 65, 300, 4096, 4097} {
		x := tree.New(size)
		u := uint64(0x9e3779b97f4a7c15)
		for step := range 40 {
			u ^= u << 13
			u ^= u >> 7
			u ^= u << 17
			x = tree.Set(x, int(u>>8%uint64(size)), int(u>>40%uint64(size/3+2)), u%5 < 3)
			undoes(t, x, step)
		}
	}
}

// undoes asks of each bit that is set which how-many-th it is, and of each how-many-th which bit it is.
func undoes(t *testing.T, x api.Tree, step int) {
	t.Helper()
	count := Below(x, x.Size)
	for i := range x.Size {
		at, ok := Nth(x, Below(x, i))
		if tree.Has(x, i) && (!ok || at != i) {
			t.Fatalf("%d bits, step %d: bit %d is told as %d %v", x.Size, step, i, at, ok)
		}
		// Else it is the next one that is set, if there is one.
		if ok && at < i || ok != (Below(x, i) < count) {
			t.Fatalf("%d bits, step %d: from bit %d on: %d %v", x.Size, step, i, at, ok)
		}
	}
	for n := range count {
		if at, ok := Nth(x, n); !ok || !tree.Has(x, at) || Below(x, at) != n || Below(x, at+1) != n+1 {
			t.Fatalf("%d bits, step %d: the %d-th is told as %d %v", x.Size, step, n, at, ok)
		}
	}
	if at, ok := Nth(x, count); ok || at != 0 || Zeros(x) != x.Size-count {
		t.Fatalf("%d bits, step %d: %d set, %d not; beyond: %d %v", x.Size, step, count, Zeros(x), at, ok)
	}
}

// P6.1: bits beyond Size, which are set in each tree that may be, count for nothing, at each size of some words.
func TestRestCountsForNothing(t *testing.T) {
	for size := 1; size <= 300; size++ {
		none, full := tree.New(size), run(size, 0, size)
		for _, i := range []int{size, size + 1, size + 63, (size + 63) / 64 * 64, size + 1000, greatest} {
			if got := Below(none, i); got != 0 {
				t.Fatalf("%d bits, none set, below %d: %d", size, i, got)
			}
			if got := Below(full, i); got != size {
				t.Fatalf("%d bits, all set, below %d: %d", size, i, got)
			}
		}
		if at, ok := Nth(none, 0); ok || at != 0 {
			t.Fatalf("%d bits, none set: the 0-th is %d %v", size, at, ok)
		}
		if at, ok := Nth(full, size); ok || at != 0 {
			t.Fatalf("%d bits, all set: the %d-th is %d %v", size, size, at, ok)
		}
		if Zeros(none) != size || Zeros(full) != 0 {
			t.Fatalf("%d bits: %d and %d zeros", size, Zeros(none), Zeros(full))
		}
	}
}

// copyOf shares no way with the program.
func copyOf(t api.Tree) api.Tree {
	out := api.Tree{Size: t.Size}
	for _, words := range t.Levels {
		out.Levels = append(out.Levels, append([]uint64(nil), words...))
	}
	return out
}

// same takes nil and an empty list for one.
func same(a, b api.Tree) bool {
	return a.Size == b.Size && slices.EqualFunc(a.Levels, b.Levels, slices.Equal[[]uint64])
}

// oddTrees are many that may not be, with levels and words missing, too many, or at odds with each other or with Size.
func oddTrees() []api.Tree {
	out := []api.Tree{
		{}, {Size: 1}, {Size: 200}, {Size: -1}, {Size: least}, {Size: greatest}, {Levels: [][]uint64{}}, {Size: 5, Levels: [][]uint64{nil, nil, nil}}, {Size: 200, Levels: [][]uint64{nil, {0}}},
		{Size: greatest, Levels: [][]uint64{{all}, {0}, {0}}}, {Size: greatest - 63, Levels: [][]uint64{{all, all}, {all}, {all}, {0}}}, {Size: least, Levels: [][]uint64{{all, all}, {all}}}, {Size: least + 64, Levels: [][]uint64{{all, all, all}, {all}}}, {Size: 1 << 40, Levels: [][]uint64{{all}, {1}}},
		{Size: 200, Levels: [][]uint64{{all, all, all, all}, {0}}}, {Size: 200, Levels: [][]uint64{{all}, {1}}}, {Size: 200, Levels: [][]uint64{{all, 0, 0, 0}, {all}}}, {Size: 130, Levels: [][]uint64{{all, all, 3}, {all - 4}}},
		{Size: 4097, Levels: [][]uint64{{all}, {all, 0}, {1}}}, {Size: 1, Levels: [][]uint64{{1}}}, {Size: 0, Levels: [][]uint64{{all}}}, {Size: -5, Levels: [][]uint64{{all}}}, {Size: api.MaxHeap + 1, Levels: run(api.MaxHeap, 0, api.MaxHeap).Levels},
	}
	for _, size := range []int{1, 65, 4097} {
		for _, x := range []api.Tree{tree.New(size), run(size, 0, size)} {
			for _, other := range []int{0, -1, size - 1, size + 64, size + 4096, greatest, least} {
				out = append(out, api.Tree{Size: other, Levels: x.Levels})
			}
			for k, words := range x.Levels {
				for _, odd := range [][]uint64{nil, words[:len(words)-1], words[1:], append(slices.Clone(words), 0), append(slices.Clone(words), all)} {
					levels := slices.Clone(x.Levels)
					levels[k] = odd
					out = append(out, api.Tree{Size: size, Levels: levels})
				}
				out = append(out, api.Tree{Size: size, Levels: slices.Delete(slices.Clone(x.Levels), k, k+1)})
			}
			out = append(out, api.Tree{Size: size, Levels: append(slices.Clone(x.Levels), []uint64{all})})
		}
	}
	return out
}

// R1, R2: no call panics, whatever tree it is handed; a zero beside a no; nothing below nought or beyond Size is told.
func TestOddTreesEnd(t *testing.T) {
	for k, x := range oddTrees() {
		if tree.May(x) {
			t.Errorf("%d: it may be", k)
		}
		was, most := copyOf(x), max(0, x.Size)
		for _, i := range places {
			if got := Below(x, i); got < 0 || got > most || i <= 0 && got != 0 {
				t.Errorf("%d: below %d: %d", k, i, got)
			}
			if at, ok := Nth(x, i); !ok && at != 0 || ok && (at < i || at >= most || i < 0) {
				t.Errorf("%d: the %d-th: %d %v", k, i, at, ok)
			}
		}
		if got := Zeros(x); got < 0 || got > most {
			t.Errorf("%d: %d zeros", k, got)
		}
		if !same(x, was) {
			t.Errorf("%d: it was changed", k)
		}
	}
}

// R1: words in spare room are not there.
func TestSpareRoomIsNotThere(t *testing.T) {
	whole := run(5000, 0, 5000)
	x := api.Tree{Size: 5000, Levels: slices.Clone(whole.Levels)}
	x.Levels[0] = x.Levels[0][:2]
	at, ok := Nth(x, 128)
	if got := Below(x, 5000); got != 128 || ok || at != 0 {
		t.Errorf("%d below 5000; the 128-th: %d %v", got, at, ok)
	}
	if got := Below(api.Tree{Size: 5000, Levels: whole.Levels[:0]}, 5000); got != 0 {
		t.Errorf("%d below 5000 of no level", got)
	}
}

// R3: what is handed in is not changed, its spare room neither.
func TestHandedInIsNotChanged(t *testing.T) {
	fill := run(4200, 100, 4000)
	spare := make([][]uint64, 0, len(fill.Levels)+1)
	for _, words := range fill.Levels {
		spare = append(spare, append(slices.Clone(words), 7, 0, all))
	}
	spare = append(spare, []uint64{1, 2, 3})
	was := copyOf(api.Tree{Levels: spare})
	x := api.Tree{Size: fill.Size, Levels: slices.Clone(spare)[:len(fill.Levels)]}
	for k, words := range fill.Levels {
		x.Levels[k] = spare[k][:len(words)]
	}
	for _, i := range places {
		Below(x, i)
		Nth(x, i)
		Zeros(x)
	}
	if !same(x, fill) || !same(api.Tree{Levels: spare}, was) || !slices.Equal(x.Levels[:cap(x.Levels)][len(fill.Levels)], []uint64{1, 2, 3}) {
		t.Error("it was changed")
	}
}

// R4: the same is told again.
func TestSameAgain(t *testing.T) {
	x := some()
	for range 3 {
		at, ok := Nth(x, 7)
		if Below(x, 65) != 8 || at != 64 || !ok || Zeros(x) != 185 {
			t.Errorf("%d, %d %v, %d", Below(x, 65), at, ok, Zeros(x))
		}
	}
}
