package slots

import (
	"reflect"
	"slices"
	"testing"

	"hodman/api"
	"hodman/tree"
)

const (
	greatest = 1<<63 - 1
	least    = -1 << 63
	all      = 1<<64 - 1
)

// plainWords adds up the powers of two of the bits that are set; those beyond the last one, up to whole words, are set.
func plainWords(bits []bool) []uint64 {
	var out []uint64
	power := uint64(1)
	for i := 0; i < len(bits) || i%64 != 0; i++ {
		if i%64 == 0 {
			out = append(out, 0)
			power = 1
		}
		if i >= len(bits) || bits[i] {
			out[i/64] += power
		}
		power *= 2
	}
	return out
}

// plainTree is what api.Tree says of these bits, level by level.
func plainTree(bits []bool) api.Tree {
	t := api.Tree{Size: len(bits)}
	for {
		words := plainWords(bits)
		t.Levels = append(t.Levels, words)
		if len(words) == 1 {
			return t
		}
		bits = make([]bool, len(words))
		for i, u := range words {
			bits[i] = u == all
		}
	}
}

// plainTaken tells of each place of so many granules if any of them is live.
func plainTaken(live []bool, granules int) []bool {
	var out []bool
	for at := 0; at+granules <= len(live); at += granules {
		out = append(out, slices.Contains(live[at:at+granules], true))
	}
	return out
}

// plainSlots is what the promise says of these granules, class by class, without a shift.
func plainSlots(live []bool, classes int) api.Slots {
	var s api.Slots
	granules := 1
	for range classes {
		s.Trees = append(s.Trees, plainTree(plainTaken(live, granules)))
		granules *= 2
	}
	return s
}

func plainUse(live []bool, from, n int, on bool) []bool {
	out := slices.Clone(live)
	for i := range out {
		if from >= 0 && n >= 0 && i >= from && i-from < n {
			out[i] = on
		}
	}
	return out
}

func plainLowest(live []bool, classes, class int) (int, bool) {
	if class < 0 || class >= classes {
		return 0, false
	}
	granules := 1
	for range class {
		granules *= 2
	}
	at := slices.Index(plainTaken(live, granules), false)
	return max(at, 0), at >= 0
}

// same takes nil and an empty list for one.
func same(a, b api.Slots) bool {
	return slices.EqualFunc(a.Trees, b.Trees, sameTree)
}

func sameTree(a, b api.Tree) bool {
	return a.Size == b.Size && slices.EqualFunc(a.Levels, b.Levels, slices.Equal[[]uint64])
}

// copyOf shares no way with the package.
func copyOf(s api.Slots) api.Slots {
	var out api.Slots
	for _, t := range s.Trees {
		x := api.Tree{Size: t.Size}
		for _, words := range t.Levels {
			x.Levels = append(x.Levels, append([]uint64(nil), words...))
		}
		out.Trees = append(out.Trees, x)
	}
	return out
}

// bitsOf tells the bits of a class as text, the lowest first.
func bitsOf(t api.Tree) string {
	var out []byte
	for i := range t.Size {
		out = append(out, "01"[t.Levels[0][i/64]/(1<<(i%64))%2])
	}
	return string(out)
}

// shapes are granules and classes that may be: at the bounds of both, just one greatest place, three, odd ones.
var shapes = [][2]int{{1, 1}, {2, 1}, {2, 2}, {3, 1}, {4, 3}, {6, 2}, {8, 4}, {12, 3}, {24, 4}, {63, 1}, {64, 7}, {65, 1}, {96, 6}, {128, 8}, {130, 2}, {192, 7}, {320, 5}, {4096, 13}, {4160, 7}, {12288, 13}}

// places are bounds of places and words, their neighbours, some within, and wrong ones.
var places = []int{least, least + 1, -1 << 32, -65, -64, -2, -1, 0, 1, 2, 3, 4, 5, 7, 8, 9, 15, 16, 17, 31, 32, 62, 63, 64, 65, 100, 127, 128, 129, 191, 192, 320, 4095, 4096, 4097, 12287, 12288, 1<<16 - 1, 1 << 16, 1<<16 + 1, 1 << 31, 1 << 32, 1 << 62, greatest - 64, greatest - 1, greatest}

// patterns are granules of which none are live, all, all but one, one alone, whole places with gaps, and mixed.
func patterns(granules int) [][]bool {
	out := [][]bool{make([]bool, granules)}
	add := func(live func(i int) bool) {
		l := make([]bool, granules)
		for i := range l {
			l[i] = live(i)
		}
		out = append(out, l)
	}
	add(func(i int) bool { return true })
	for _, one := range []int{0, granules / 2, granules - 1} {
		add(func(i int) bool { return i != one })
		add(func(i int) bool { return i == one })
	}
	add(func(i int) bool { return i < granules-granules/3 })
	add(func(i int) bool { return i/8%3 != 1 })
	add(func(i int) bool { return i*i%7 < 3 })
	return out
}

// P9.1: New at the edges that the document names: so many bits of each class, none of them set.
func TestNew(t *testing.T) {
	for _, x := range []struct {
		granules int
		sizes    []int
	}{
		{1, []int{1}}, {2, []int{2}}, {2, []int{2, 1}}, {5, []int{5}}, {6, []int{6, 3}}, {8, []int{8, 4, 2, 1}}, {12, []int{12, 6, 3}}, {24, []int{24, 12, 6, 3}}, {40, []int{40, 20}},
		{65535, []int{65535}}, {65534, []int{65534, 32767}}, {65536, []int{65536}}, {65536, []int{65536, 32768}},
		{49152, []int{49152, 24576, 12288, 6144, 3072, 1536, 768, 384, 192, 96, 48, 24, 12, 6, 3}},
		{65536, []int{65536, 32768, 16384, 8192, 4096, 2048, 1024, 512, 256, 128, 64, 32, 16, 8, 4, 2}},
		{65536, []int{65536, 32768, 16384, 8192, 4096, 2048, 1024, 512, 256, 128, 64, 32, 16, 8, 4, 2, 1}},
	} {
		got := New(x.granules, len(x.sizes))
		if len(got.Trees) != len(x.sizes) || !May(got) {
			t.Errorf("New(%d, %d): %d trees, %v", x.granules, len(x.sizes), len(got.Trees), May(got))
			continue
		}
		for k, tr := range got.Trees {
			if !sameTree(tr, plainTree(make([]bool, x.sizes[k]))) {
				t.Errorf("New(%d, %d), class %d: %d bits, not %d", x.granules, len(x.sizes), k, tr.Size, x.sizes[k])
			}
		}
	}
}

// P9.1: classes or granules out of their bounds, or granules that are no whole places of each class: none.
func TestNewOfWrongShape(t *testing.T) {
	for _, x := range [][2]int{
		{8, 0}, {8, -1}, {8, -17}, {8, 18}, {65536, 18}, {131072, 18}, {0, 18}, {65536, 19}, {65536, 64}, {65536, 65}, {65536, 66}, {65536, 128}, {8, least}, {8, least + 1}, {8, greatest}, {8, greatest - 1}, {8, 1 << 32}, {8, 1<<32 + 1},
		{0, 1}, {0, 2}, {0, 17}, {-1, 1}, {-2, 2}, {-8, 1}, {-65536, 17}, {65537, 1}, {65538, 2}, {131072, 1}, {131072, 17}, {1 << 32, 1}, {1<<32 + 8, 1}, {1 << 62, 1}, {1 << 62, 17}, {greatest, 1}, {greatest, 17}, {greatest, greatest}, {least, 1}, {least, 17}, {least, least}, {least, greatest}, {greatest, least}, {least + 8, 2},
		{1, 2}, {3, 2}, {65535, 2}, {6, 3}, {2, 3}, {10, 3}, {12, 4}, {4, 4}, {65534, 3}, {32768, 17}, {65535, 17}, {49152, 17}, {49152, 16}, {1, 17}, {0, 0}, {-1, -1},
	} {
		if got := New(x[0], x[1]); len(got.Trees) != 0 || May(got) {
			t.Errorf("New(%d, %d): %d trees", x[0], x[1], len(got.Trees))
		}
	}
}

// P9.1: all small granules and classes: there are slots just where a multiple of the greatest place is asked for.
func TestNewOfAllSmall(t *testing.T) {
	for granules := -3; granules <= 140; granules++ {
		place := 1
		for classes := 1; classes <= 17; classes++ {
			want := api.Slots{}
			if granules >= 1 && granules%place == 0 {
				want = plainSlots(make([]bool, granules), classes)
			}
			if got := New(granules, classes); !same(got, want) || May(got) != (len(want.Trees) > 0) {
				t.Fatalf("New(%d, %d): %d trees", granules, classes, len(got.Trees))
			}
			place *= 2
		}
	}
}

// P9.1: Use of sixteen granules, one change behind another, each class worked out by hand.
func TestUse(t *testing.T) {
	s := New(16, 5)
	for i, x := range []struct {
		from, n int
		on      bool
		want    [5]string
	}{
		{0, 0, true, [5]string{"0000000000000000", "00000000", "0000", "00", "0"}},
		{0, 1, true, [5]string{"1000000000000000", "10000000", "1000", "10", "1"}},
		{5, 2, true, [5]string{"1000011000000000", "10110000", "1100", "10", "1"}},
		{15, 1, true, [5]string{"1000011000000001", "10110001", "1101", "11", "1"}},
		{7, 3, true, [5]string{"1000011111000001", "10111001", "1111", "11", "1"}},
		// Of place 2 of class 1 granule 5 is live no more, and with it none; of place 1 of class 2 two are still.
		{4, 2, false, [5]string{"1000001111000001", "10011001", "1111", "11", "1"}},
		{6, 1, false, [5]string{"1000000111000001", "10011001", "1111", "11", "1"}},
		{7, 1, false, [5]string{"1000000011000001", "10001001", "1011", "11", "1"}},
		// The place of class 3 loses its last granule.
		{0, 8, false, [5]string{"0000000011000001", "00001001", "0011", "01", "1"}},
		{8, 7, false, [5]string{"0000000000000001", "00000001", "0001", "01", "1"}},
		{8, 7, true, [5]string{"0000000011111111", "00001111", "0011", "01", "1"}},
		// All but one in each place that is met at its ends.
		{9, 6, false, [5]string{"0000000010000001", "00001001", "0011", "01", "1"}},
		{14, 99, false, [5]string{"0000000010000000", "00001000", "0010", "01", "1"}},
		{0, 16, true, [5]string{"1111111111111111", "11111111", "1111", "11", "1"}},
		{1, 14, false, [5]string{"1000000000000001", "10000001", "1001", "11", "1"}},
		{15, greatest, false, [5]string{"1000000000000000", "10000000", "1000", "10", "1"}},
		{0, 1, false, [5]string{"0000000000000000", "00000000", "0000", "00", "0"}},
		{3, greatest, true, [5]string{"0001111111111111", "01111111", "1111", "11", "1"}},
		{0, 17, false, [5]string{"0000000000000000", "00000000", "0000", "00", "0"}},
	} {
		s = Use(s, x.from, x.n, x.on)
		if !May(s) || len(s.Trees) != 5 {
			t.Fatalf("%d: it may not be", i)
		}
		for k, want := range x.want {
			if got := bitsOf(s.Trees[k]); got != want {
				t.Errorf("%d: class %d: %s, not %s", i, k, got, want)
			}
		}
	}
}

// P9.1: Use with from or n below 0, or of granules that are not there, tells s.
func TestUseOfNone(t *testing.T) {
	for _, shape := range shapes {
		granules, classes := shape[0], shape[1]
		for _, live := range patterns(granules)[:4] {
			s := plainSlots(live, classes)
			for _, x := range [][2]int{
				{-1, 5}, {-1, greatest}, {-64, 128}, {least, 5}, {least, greatest}, {least + 1, greatest}, {-1 << 32, 1 << 33}, {5, -1}, {0, -1}, {0, least}, {5, least}, {1, least + 1}, {-1, -1}, {-5, -1}, {least, least}, {greatest, least}, {least, -1}, {-1, least}, {-1, 0}, {granules, -1}, {granules + 1, -5},
				{0, 0}, {granules - 1, 0}, {granules, 0}, {granules, 1}, {granules, granules}, {granules + 1, 9}, {granules, greatest}, {1 << 32, 1}, {1 << 32, greatest}, {greatest, 1}, {greatest, greatest}, {greatest - 1, 2}, {greatest, 0},
			} {
				for _, on := range []bool{true, false} {
					if got := Use(s, x[0], x[1], on); !same(got, s) {
						t.Fatalf("%d granules: from %d, %d, %v", granules, x[0], x[1], on)
					}
				}
			}
		}
	}
}

// P9.1: slots without trees stay so.
func TestUseOfNoTrees(t *testing.T) {
	for _, s := range []api.Slots{{}, {Trees: []api.Tree{}}, New(0, 1), New(3, 2)} {
		for _, from := range places {
			for _, n := range places {
				if got := Use(s, from, n, true); len(got.Trees) != 0 {
					t.Errorf("from %d, %d: %d trees", from, n, len(got.Trees))
				}
			}
		}
	}
}

// P9.1: over the end of a word, of several, and of places of each class at MaxHeap; a bit is cleared with its last granule, and not ahead of it.
func TestUseAtMaxHeap(t *testing.T) {
	s := New(api.MaxHeap, 17)
	for _, x := range [][2]int{{0, 1}, {0, 1 << 16}, {1<<16 - 1, 1}, {63, 2}, {1, 200}, {4095, 2}, {32767, 2}, {32768, 32768}, {100, 40000}, {1, 1<<16 - 2}} {
		from, n := x[0], x[1]
		live := plainUse(make([]bool, api.MaxHeap), from, n, true)
		used := Use(s, from, n, true)
		if !same(used, plainSlots(live, 17)) {
			t.Errorf("%d from %d on", n, from)
		}
		// The last one that is left holds a place of each class.
		for _, left := range []int{from, from + n/2, from + n - 1} {
			one := Use(Use(used, from, left-from, false), left+1, from+n-left-1, false)
			if !same(one, Use(s, left, 1, true)) || !May(one) {
				t.Errorf("%d from %d on, but for %d", n, from, left)
			}
			if !same(Use(one, left, 1, false), s) {
				t.Errorf("%d from %d on: behind %d", n, from, left)
			}
		}
	}
}

// P9.1: Lowest of each class, worked out by hand, at its edges and at wrong inputs.
func TestLowest(t *testing.T) {
	none := New(24, 4)
	full := Use(none, 0, 24, true)
	// Each place of class 3 but the last has something live in it.
	last := Use(Use(none, 7, 1, true), 8, 1, true)
	behind := Use(full, 4, 6, false)
	for i, x := range []struct {
		s     api.Slots
		class int
		want  int
		ok    bool
	}{
		{none, 0, 0, true}, {none, 1, 0, true}, {none, 2, 0, true}, {none, 3, 0, true},
		{full, 0, 0, false}, {full, 1, 0, false}, {full, 2, 0, false}, {full, 3, 0, false},
		{last, 0, 0, true}, {last, 1, 0, true}, {last, 2, 0, true}, {last, 3, 2, true},
		{Use(none, 0, 1, true), 0, 1, true}, {Use(none, 0, 1, true), 1, 1, true}, {Use(none, 0, 1, true), 2, 1, true}, {Use(none, 0, 1, true), 3, 1, true},
		{Use(none, 0, 23, true), 0, 23, true}, {Use(none, 0, 23, true), 1, 0, false}, {Use(none, 0, 22, true), 1, 11, true}, {Use(none, 0, 20, true), 2, 5, true}, {Use(none, 0, 16, true), 3, 2, true}, {Use(none, 0, 17, true), 3, 0, false},
		{behind, 0, 4, true}, {behind, 1, 2, true}, {behind, 2, 1, true}, {behind, 3, 0, false},
		{Use(behind, 0, 4, false), 3, 0, true}, {Use(behind, 10, 6, false), 3, 1, true},
		{Use(last, 7, 1, false), 3, 0, true}, {Use(last, 8, 1, false), 3, 1, true},
		{New(1, 1), 0, 0, true}, {Use(New(1, 1), 0, 1, true), 0, 0, false}, {New(65536, 17), 16, 0, true}, {Use(New(65536, 17), 65535, 1, true), 16, 0, false}, {Use(New(65536, 17), 0, 65535, true), 0, 65535, true}, {Use(New(65536, 17), 65535, 1, true), 15, 0, true}, {Use(New(65536, 17), 0, 1, true), 15, 1, true},
		{none, -1, 0, false}, {none, 4, 0, false}, {none, 5, 0, false}, {none, 17, 0, false}, {none, -4, 0, false}, {none, 1 << 32, 0, false}, {none, greatest, 0, false}, {none, least, 0, false}, {none, least + 1, 0, false},
		{api.Slots{}, 0, 0, false}, {api.Slots{}, -1, 0, false}, {api.Slots{}, greatest, 0, false}, {New(65536, 17), 17, 0, false}, {New(5, 1), 1, 0, false},
	} {
		if got, ok := Lowest(x.s, x.class); got != x.want || ok != x.ok {
			t.Errorf("%d: class %d: %d %v, not %d %v", i, x.class, got, ok, x.want, x.ok)
		}
	}
}

// P9.1: each place but the last one has a granule live in it: the last is told, at each class.
func TestLowestIsTheLast(t *testing.T) {
	for class := range 17 {
		count := 1 << 16 / (1 << class)
		s := New(1<<16, 17)
		live := make([]bool, 1<<16)
		if count <= 256 {
			for p := range count - 1 {
				at := p*(1<<class) + p%(1<<class)
				s, live[at] = Use(s, at, 1, true), true
			}
		} else {
			s, live = Use(s, 0, (count-1)*(1<<class), true), plainUse(live, 0, (count-1)*(1<<class), true)
		}
		if got, ok := Lowest(s, class); got != count-1 || !ok || !same(s, plainSlots(live, 17)) {
			t.Errorf("class %d: %d %v, not %d", class, got, ok, count-1)
		}
		if got, ok := Lowest(Use(s, 1<<16-1, 1, true), class); got != 0 || ok {
			t.Errorf("class %d: %d %v: there is none", class, got, ok)
		}
	}
}

// P9.1: held against the promise said granule by granule, at all shapes, patterns and places.
func TestAsSaidPlainly(t *testing.T) {
	for _, shape := range shapes {
		granules, classes := shape[0], shape[1]
		near := []int{0, 1, 5, 63, 64, granules / 3, granules/2 + 1, granules - 1, granules + 1, greatest}
		for _, live := range patterns(granules) {
			s := plainSlots(live, classes)
			if !May(s) {
				t.Fatalf("%d granules: it may be", granules)
			}
			for class := -1; class <= classes; class++ {
				checkLowest(t, s, live, classes, class)
			}
			for _, from := range near {
				for _, n := range near {
					checkUse(t, s, live, classes, from, n)
				}
			}
		}
	}
}

// P9.1: all small from and n.
func TestSmallAsSaidPlainly(t *testing.T) {
	for _, shape := range [][2]int{{1, 1}, {7, 1}, {8, 4}, {20, 3}, {24, 4}, {48, 5}, {66, 2}} {
		granules, classes := shape[0], shape[1]
		for _, live := range patterns(granules) {
			s := plainSlots(live, classes)
			for from := -2; from <= granules+2; from++ {
				for n := -2; n <= granules+2; n++ {
					checkUse(t, s, live, classes, from, n)
				}
			}
		}
	}
}

// P9.1: all of what may be live in eight granules, and all changes of it.
func TestEightGranulesAsSaidPlainly(t *testing.T) {
	for set := range 256 {
		live := make([]bool, 8)
		for i := range live {
			live[i] = set/(1<<i)%2 == 1
		}
		s := plainSlots(live, 4)
		for class := range 4 {
			checkLowest(t, s, live, 4, class)
		}
		for from := range 9 {
			for n := range 10 {
				checkUse(t, s, live, 4, from, n)
			}
		}
	}
}

func checkUse(t *testing.T, s api.Slots, live []bool, classes, from, n int) {
	t.Helper()
	for _, on := range []bool{true, false} {
		got, want := Use(s, from, n, on), plainSlots(plainUse(live, from, n, on), classes)
		if !same(got, want) || !May(got) {
			t.Fatalf("%d granules, %d classes: from %d, %d, %v", len(live), classes, from, n, on)
		}
	}
}

func checkLowest(t *testing.T, s api.Slots, live []bool, classes, class int) {
	t.Helper()
	got, ok := Lowest(s, class)
	if want, wantOK := plainLowest(live, classes, class); got != want || ok != wantOK {
		t.Fatalf("%d granules: class %d: %d %v, not %d %v", len(live), class, got, ok, want, wantOK)
	}
}

// What follows: the lowest place is free, through many changes one behind another: no granule of it is live, and each place ahead of it has one.
func TestLowestIsFree(t *testing.T) {
	for _, shape := range [][2]int{{24, 4}, {128, 8}, {1536, 10}} {
		granules, classes := shape[0], shape[1]
		s, live := New(granules, classes), make([]bool, granules)
		u := uint64(0x9e3779b97f4a7c15)
		for step := range 300 {
			u ^= u << 13
			u ^= u >> 7
			u ^= u << 17
			from, n, on := int(u>>8%uint64(granules)), int(u>>40%uint64(granules/4+2)), u%5 < 3
			s, live = Use(s, from, n, on), plainUse(live, from, n, on)
			for class := range classes {
				place := 1 << class
				at, ok := Lowest(s, class)
				if ok && slices.Contains(live[at*place:(at+1)*place], true) {
					t.Fatalf("%d granules, step %d: place %d of class %d is not free", granules, step, at, class)
				}
				if !ok {
					at = granules / place
				}
				for p := range at {
					if !slices.Contains(live[p*place:(p+1)*place], true) {
						t.Fatalf("%d granules, step %d: place %d of class %d is free, too", granules, step, p, class)
					}
				}
			}
			if step%10 == 0 && !May(s) {
				t.Fatalf("%d granules, step %d: it may not be", granules, step)
			}
		}
	}
}

// What follows: who takes the lowest place, one behind another, is told each of them once, rising.
func TestTakeAll(t *testing.T) {
	for class := range 4 {
		s := New(24, 4)
		for p := range 24 / (1 << class) {
			at, ok := Lowest(s, class)
			if at != p || !ok {
				t.Fatalf("class %d: %d %v, not %d", class, at, ok, p)
			}
			s = Use(s, at*(1<<class), 1<<class, true)
		}
		if at, ok := Lowest(s, class); at != 0 || ok {
			t.Errorf("class %d: %d %v", class, at, ok)
		}
	}
}

// P9.1: the chapter's example.
func TestExample(t *testing.T) {
	for _, shape := range shapes {
		s := Use(New(shape[0], shape[1]), 0, 1, true)
		for k, tr := range s.Trees {
			if !tree.Has(tr, 0) || tree.Has(tr, 1) {
				t.Errorf("%d granules: class %d", shape[0], k)
			}
		}
	}
}

// P9.1: with one bit of one class turned, slots may be only where it is of class 0, and all classes above say the same.
func TestMayWithOneBitTurned(t *testing.T) {
	for _, shape := range [][2]int{{1, 1}, {5, 1}, {8, 4}, {12, 3}, {24, 4}, {128, 8}, {192, 7}} {
		granules, classes := shape[0], shape[1]
		for _, live := range patterns(granules) {
			s := plainSlots(live, classes)
			for k, tr := range s.Trees {
				for i := range tr.Size {
					turned := copyOf(s)
					turned.Trees[k] = tree.Set(tr, i, 1, !tree.Has(tr, i))
					if want := k == 0 && tellsTheSame(live, classes, i); May(turned) != want {
						t.Fatalf("%d granules: bit %d of class %d turned: %v", granules, i, k, !want)
					}
				}
			}
		}
	}
}

// tellsTheSame tells if all classes above 0 say the same with granule i turned.
func tellsTheSame(live []bool, classes, i int) bool {
	was, is := plainSlots(live, classes), plainSlots(plainUse(live, i, 1, !live[i]), classes)
	return slices.EqualFunc(was.Trees[1:], is.Trees[1:], sameTree)
}

// P9.1: a word turned by hand, so that tree.May refuses it: bits beyond the last one, and bits of levels above.
func TestMayOfTreesThatMayNotBe(t *testing.T) {
	s := Use(New(4160, 7), 64, 1000, true)
	for k, tr := range s.Trees {
		for level, words := range tr.Levels {
			for i := range words {
				for _, bit := range []uint64{1, 1 << 40, 1 << 63} {
					turned := copyOf(s)
					turned.Trees[k].Levels[level][i] ^= bit
					if !tree.May(turned.Trees[k]) && May(turned) {
						t.Errorf("class %d, level %d, word %d", k, level, i)
					}
				}
			}
		}
		for _, wrong := range []api.Tree{{}, {Size: tr.Size}, {Size: -tr.Size, Levels: tr.Levels}, {Size: greatest, Levels: tr.Levels}, {Size: least, Levels: tr.Levels}, {Size: tr.Size, Levels: tr.Levels[1:]}, {Size: tr.Size, Levels: append(slices.Clone(tr.Levels), []uint64{all})}, {Size: tr.Size, Levels: [][]uint64{tr.Levels[0][1:]}}} {
			turned := copyOf(s)
			turned.Trees[k] = wrong
			if May(turned) {
				t.Errorf("class %d: %d", k, wrong.Size)
			}
		}
	}
	if !May(s) {
		t.Error("it may be")
	}
}

// P9.1: May of trees too many, too few, in another order, of sizes that are not halves of one another, and of none.
func TestMayOfWrongTrees(t *testing.T) {
	of := func(sizes ...int) api.Slots {
		var s api.Slots
		for _, size := range sizes {
			s.Trees = append(s.Trees, tree.New(size))
		}
		return s
	}
	for i, x := range []struct {
		s   api.Slots
		may bool
	}{
		{api.Slots{}, false}, {api.Slots{Trees: []api.Tree{}}, false}, {api.Slots{Trees: []api.Tree{{}}}, false}, {of(0), false}, {of(0, 0), false}, {of(8, 0), false}, {of(1<<16+2, 1<<15+1), false},
		{of(1), true}, {of(7), true}, {of(8), true}, {of(8, 4), true}, {of(8, 4, 2), true}, {of(8, 4, 2, 1), true}, {of(8, 4, 2, 1, 0), false}, {of(8, 4, 2, 1, 1), false}, {of(8, 4, 2, 2), false},
		{of(7, 3), false}, {of(7, 4), false}, {of(8, 3), false}, {of(8, 5), false}, {of(8, 8), false}, {of(8, 16), false}, {of(4, 8), false}, {of(8, 2), false}, {of(8, 2, 1), false}, {of(8, 4, 1), false}, {of(6, 3, 1), false}, {of(6, 3, 2), false}, {of(1, 2), false}, {of(1, 1), false},
		{of(1<<16, 1<<15), true}, {of(1<<16, 1<<16), false}, {of(1<<15, 1<<14), true}, {of(4, 2, 1, 2, 4), false},
	} {
		if May(x.s) != x.may {
			t.Errorf("%d: %v", i, !x.may)
		}
	}
	// Of what is told, the classes from one on, and those up to one, are slots by themselves.
	s := Use(New(64, 6), 9, 30, true)
	for k := 1; k < 6; k++ {
		if !May(api.Slots{Trees: s.Trees[k:]}) || !May(api.Slots{Trees: s.Trees[:k]}) {
			t.Errorf("from class %d on: it may be", k)
		}
		if without := slices.Delete(slices.Clone(s.Trees), k, k+1); k < 5 && May(api.Slots{Trees: without}) {
			t.Errorf("without class %d: it may not be", k)
		}
		if twice := slices.Insert(slices.Clone(s.Trees), k, s.Trees[k]); May(api.Slots{Trees: twice}) {
			t.Errorf("class %d twice: it may not be", k)
		}
	}
}

// oddTrees are some that may not be, with levels and words missing, or at odds with each other.
func oddTrees() []api.Tree {
	return []api.Tree{
		{}, {Size: 1}, {Size: 200}, {Size: -1}, {Size: least}, {Size: greatest}, {Size: 1 << 16}, {Size: 5, Levels: [][]uint64{nil, nil}}, {Size: 5, Levels: [][]uint64{{}}},
		{Size: greatest, Levels: [][]uint64{{0}, {0}, {0}}}, {Size: greatest, Levels: [][]uint64{{all, all}, {all}, {all}, {0}}}, {Size: 1 << 40, Levels: [][]uint64{{all}, {1}}}, {Size: greatest, Levels: [][]uint64{nil, {0}}},
		{Size: 200, Levels: [][]uint64{{all, all, all, all}, {0}}}, {Size: 200, Levels: [][]uint64{{all}, {1}}}, {Size: 200, Levels: [][]uint64{{all, 0, 0, 0}, {all}}}, {Size: 1, Levels: [][]uint64{{1}}}, {Size: 0, Levels: [][]uint64{{0}}}, {Size: -5, Levels: [][]uint64{{0}}}, {Size: least, Levels: [][]uint64{{all}}},
		tree.New(1), tree.New(8), tree.New(100), tree.Set(tree.New(200), 0, 200, true), tree.New(1 << 16),
	}
}

// R1, R2, R3: no call panics, whatever slots it is handed; a zero beside a no; nothing handed in is changed.
func TestOddSlotsEnd(t *testing.T) {
	var odd []api.Slots
	for _, a := range oddTrees() {
		odd = append(odd, api.Slots{Trees: []api.Tree{a}})
		for _, b := range oddTrees() {
			odd = append(odd, api.Slots{Trees: []api.Tree{a, b}}, api.Slots{Trees: []api.Tree{a, b, a}})
		}
	}
	odd = append(odd, api.Slots{Trees: slices.Repeat([]api.Tree{tree.New(100)}, 130)}, api.Slots{Trees: slices.Repeat(oddTrees(), 7)})
	few := []int{least, -1, 0, 1, 63, 64, 199, 1 << 40, greatest - 1, greatest}
	for i, s := range odd {
		was := copyOf(s)
		may := May(s)
		for _, from := range few {
			if at, ok := Lowest(s, from); !ok && at != 0 {
				t.Errorf("%d: class %d: %d", i, from, at)
			}
			for _, n := range few {
				Use(s, from, n, false)
				if got := Use(s, from, n, true); (from < 0 || n < 1) && !same(got, s) || may && !May(got) {
					t.Errorf("%d: from %d, %d", i, from, n)
				}
			}
		}
		if !same(s, was) {
			t.Errorf("%d: it was changed", i)
		}
	}
}

// R3: what is handed in is not changed, its spare room neither, and no answer shares memory with it.
func TestHandedInIsNotChanged(t *testing.T) {
	fill := Use(New(192, 7), 60, 100, true)
	for _, from := range places {
		for _, n := range places {
			for _, on := range []bool{true, false} {
				s := inSpareRoom(fill)
				was := withSpareRoom(s)
				got := Use(s, from, n, on)
				Lowest(s, from)
				May(s)
				spoil(got)
				if !same(s, fill) || !same(withSpareRoom(s), was) {
					t.Fatalf("from %d, %d, %v", from, n, on)
				}
			}
		}
	}
}

// inSpareRoom tells s with a word behind the last of each level, a level behind the last of each tree, and a tree behind the last.
func inSpareRoom(s api.Slots) api.Slots {
	trees := []api.Tree{}
	for _, t := range s.Trees {
		levels := [][]uint64{}
		for _, words := range t.Levels {
			levels = append(levels, append(slices.Clone(words), 7)[:len(words)])
		}
		levels = append(levels, []uint64{5, 6}[:1])
		trees = append(trees, api.Tree{Size: t.Size, Levels: levels[:len(t.Levels)]})
	}
	trees = append(trees, api.Tree{Size: 3, Levels: [][]uint64{{1, 2}, {4}}[:1]})
	return api.Slots{Trees: trees[:len(s.Trees)]}
}

// withSpareRoom copies s with what stands behind the last of each of its lists.
func withSpareRoom(s api.Slots) api.Slots {
	out := api.Slots{}
	for _, t := range s.Trees[:len(s.Trees)+1] {
		x := api.Tree{Size: t.Size}
		for _, words := range t.Levels[:len(t.Levels)+1] {
			x.Levels = append(x.Levels, slices.Clone(words[:cap(words)]))
		}
		out.Trees = append(out.Trees, x)
	}
	return out
}

// spoil writes all over s and its spare room.
func spoil(s api.Slots) {
	for k, t := range s.Trees {
		for level, words := range t.Levels {
			for i := range words[:cap(words)] {
				words[:cap(words)][i] = 0xbad
			}
			t.Levels[level] = nil
		}
		_ = append(t.Levels, []uint64{0xbad})
		s.Trees[k] = api.Tree{}
	}
	_ = append(s.Trees, api.Tree{Size: 0xbad})
}

// R3: no two lists of what New and Use tell share memory, not even where those handed in do.
func TestTreesLieApart(t *testing.T) {
	one := tree.New(8)
	for i, tell := range []func() api.Slots{
		func() api.Slots { return New(256, 9) },
		func() api.Slots { return Use(New(256, 9), 3, 70, true) },
		func() api.Slots { return Use(New(256, 9), -1, 70, true) },
		func() api.Slots { return Use(api.Slots{Trees: []api.Tree{one, one, one}}, 0, 0, true) },
		func() api.Slots { return Use(api.Slots{Trees: []api.Tree{one, one, one}}, 1, 2, true) },
		func() api.Slots { return Use(api.Slots{Trees: []api.Tree{{Size: 9}, one, one}}, -1, 2, true) },
	} {
		was := tell()
		for k := range was.Trees {
			got := tell()
			spoil(api.Slots{Trees: slices.Clone(got.Trees[:k+1])})
			if !same(api.Slots{Trees: got.Trees[k+1:]}, api.Slots{Trees: was.Trees[k+1:]}) {
				t.Errorf("%d: class %d shares memory with one above", i, k)
			}
		}
	}
}

// R4: the same is told again.
func TestSameAgain(t *testing.T) {
	s := Use(New(192, 7), 63, 100, true)
	for range 3 {
		if !same(Use(New(192, 7), 63, 100, true), s) || !reflect.DeepEqual(New(24, 4), New(24, 4)) || !May(s) {
			t.Error("another answer")
		}
		if at, ok := Lowest(s, 6); at != 0 || ok {
			t.Errorf("%d %v", at, ok)
		}
		if at, ok := Lowest(s, 5); at != 0 || !ok {
			t.Errorf("%d %v", at, ok)
		}
	}
}
