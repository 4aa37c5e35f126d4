package place

import (
	"slices"
	"testing"

	"hodman/api"
	"hodman/slots"
	"hodman/tree"
)

const (
	greatest = 1<<63 - 1
	least    = -1 << 63
	all      = 1<<64 - 1
	none     = -1 // stands in a plain engine where no block begins
)

// plain is an engine said granule by granule: which class begins at each of them.
type plain struct {
	g, classes int
	begins     []int
}

func plainNew(g, granules, classes int) plain {
	return plain{g, classes, slices.Repeat([]int{none}, granules)}
}

// power doubles, so that the package's shifts are held against something else.
func power(class int) int {
	out := 1
	for range class {
		out *= 2
	}
	return out
}

// live tells of each granule if a block lies in it.
func (p plain) live() []bool {
	out := make([]bool, len(p.begins))
	for at, class := range p.begins {
		if class == none {
			continue
		}
		for i := range power(class) {
			out[at+i] = true
		}
	}
	return out
}

func (p plain) with(granule, class int) plain {
	out := plain{p.g, p.classes, slices.Clone(p.begins)}
	out.begins[granule] = class
	return out
}

// place tells p with a block of that class, tried from 0 on place by place.
func (p plain) place(class int) (plain, int, bool) {
	if class < 0 || class >= p.classes {
		return p, 0, false
	}
	live := p.live()
	for at := 0; at+power(class) <= len(live); at += power(class) {
		if !slices.Contains(live[at:at+power(class)], true) {
			return p.with(at, class), at * p.g, true
		}
	}
	return p, 0, false
}

// release tells p without the block that begins at byte at, each granule's byte tried.
func (p plain) release(at int) (plain, int, bool) {
	for granule, class := range p.begins {
		if granule*p.g == at && class != none {
			return p.with(granule, none), class, true
		}
	}
	return p, 0, false
}

// plainTree is what api.Tree says of these bits, level by level.
func plainTree(bits []bool) api.Tree {
	t := api.Tree{Size: len(bits)}
	for {
		words := plainWords(bits)
		t.Levels = append(t.Levels, words)
		if len(words) == 1 {
			return t
		}
		bits = make([]bool, len(words))
		for i, u := range words {
			bits[i] = u == all
		}
	}
}

// plainWords adds up the powers of two of the bits that are set; those beyond the last one, up to whole words, are set.
func plainWords(bits []bool) []uint64 {
	var out []uint64
	value := uint64(1)
	for i := 0; i < len(bits) || i%64 != 0; i++ {
		if i%64 == 0 {
			out = append(out, 0)
			value = 1
		}
		if i >= len(bits) || bits[i] {
			out[i/64] += value
		}
		value *= 2
	}
	return out
}

// engine tells the engine that p is.
func (p plain) engine() api.Engine {
	e := api.Engine{G: p.g}
	live := p.live()
	for class := range p.classes {
		var taken []bool
		for at := 0; at+power(class) <= len(live); at += power(class) {
			taken = append(taken, slices.Contains(live[at:at+power(class)], true))
		}
		e.Slots.Trees = append(e.Slots.Trees, plainTree(taken))
	}
	for granule, class := range p.begins {
		if class != none {
			e.Side = append(e.Side, api.Mark{At: granule * p.g, Class: class})
		}
	}
	return e
}

// same takes nil and an empty list for one.
func same(a, b api.Engine) bool {
	return a.G == b.G && slices.EqualFunc(a.Slots.Trees, b.Slots.Trees, sameTree) && slices.Equal(a.Side, b.Side)
}

func sameTree(a, b api.Tree) bool {
	return a.Size == b.Size && slices.EqualFunc(a.Levels, b.Levels, slices.Equal[[]uint64])
}

// copyOf shares no way with the package.
func copyOf(e api.Engine) api.Engine {
	out := api.Engine{G: e.G}
	for _, t := range e.Slots.Trees {
		x := api.Tree{Size: t.Size}
		for _, words := range t.Levels {
			x.Levels = append(x.Levels, slices.Clone(words))
		}
		out.Slots.Trees = append(out.Slots.Trees, x)
	}
	out.Side = slices.Clone(e.Side)
	return out
}

// must tells the engine of New, which there is.
func must(t *testing.T, g, granules, classes int) api.Engine {
	t.Helper()
	e, ok := New(g, granules, classes)
	if !ok {
		t.Fatalf("New(%d, %d, %d): no", g, granules, classes)
	}
	return e
}

// P11.1: New at its bounds, by hand: of g, of g times granules, of granules and classes, and at wrong inputs.
func TestNew(t *testing.T) {
	for _, x := range []struct {
		g, granules, classes int
		ok                   bool
	}{
		{1, 1, 1, true}, {4, 16, 4, true}, {4, 16, 5, true}, {4, 16, 6, false}, {4, 12, 3, true}, {4, 12, 4, false}, {1, 24, 4, true}, {1, 24, 5, false}, {16, 3, 1, true}, {16, 3, 2, false},
		{65536, 1, 1, true}, {65536, 1, 2, false}, {65536, 2, 1, false}, {65536, 2, 2, false}, {65536, 65536, 17, false}, {65535, 1, 1, false}, {65537, 1, 1, false}, {131072, 1, 1, false}, {32768, 2, 2, true}, {32768, 3, 1, false}, {32768, 1, 1, true}, {1 << 20, 1, 1, false},
		{1, 65536, 1, true}, {1, 65536, 17, true}, {1, 65536, 18, false}, {1, 65535, 1, true}, {1, 65537, 1, false}, {1, 131072, 17, false}, {2, 32768, 16, true}, {2, 32768, 17, false}, {2, 32769, 1, false}, {2, 32770, 1, false}, {2, 65536, 17, false}, {4, 16384, 15, true}, {4, 16385, 1, false}, {256, 256, 9, true}, {256, 257, 1, false}, {256, 255, 1, true},
		{0, 16, 4, false}, {-1, 16, 4, false}, {-2, 16, 4, false}, {-4, 16, 4, false}, {-65536, 1, 1, false}, {3, 16, 4, false}, {5, 16, 4, false}, {6, 16, 4, false}, {least, 1, 1, false}, {least, 16, 4, false}, {least, 2, 1, false}, {least + 1, 1, 1, false}, {greatest, 1, 1, false}, {greatest, 16, 4, false}, {1 << 62, 4, 1, false}, {1 << 62, 1, 1, false}, {1 << 32, 1, 1, false}, {1 << 48, 65536, 1, false}, {1<<32 + 4, 16, 4, false},
		{4, 0, 1, false}, {4, -1, 1, false}, {4, -16, 4, false}, {4, least, 1, false}, {4, greatest, 1, false}, {4, 1 << 62, 1, false}, {1 << 16, 1 << 48, 1, false}, {4, 1 << 32, 1, false}, {4, 1<<32 + 16, 4, false}, {1, least, 17, false},
		{4, 16, 0, false}, {4, 16, -1, false}, {4, 16, least, false}, {4, 16, greatest, false}, {4, 16, 64, false}, {4, 16, 65, false}, {4, 16, 1 << 32, false}, {4, 16, 1<<32 + 4, false}, {1, 65536, 0, false}, {1, 65536, 33, false},
		{0, 0, 0, false}, {least, least, least, false}, {greatest, greatest, greatest, false}, {-1, -1, -1, false},
	} {
		e, ok := New(x.g, x.granules, x.classes)
		want := api.Engine{}
		if x.ok {
			want = plainNew(x.g, x.granules, x.classes).engine()
		}
		if ok != x.ok || !same(e, want) {
			t.Errorf("New(%d, %d, %d): %v", x.g, x.granules, x.classes, ok)
		}
	}
}

// P11.1: each power of two up to MaxHeap and its neighbours as g, with as many granules as just fit, one more and one less.
func TestNewAtEachPower(t *testing.T) {
	var powers []int
	for k := range 17 {
		powers = append(powers, power(k))
	}
	for k := range 18 {
		g := power(k)
		for _, near := range []int{g - 2, g - 1, g, g + 1, g + 2, g * 3, -g} {
			if _, ok := New(near, 1, 1); ok != slices.Contains(powers, near) {
				t.Errorf("New(%d, 1, 1): %v", near, ok)
			}
		}
		if g > 65536 {
			continue
		}
		fit := 65536 / g
		for classes := 1; classes <= 18; classes++ {
			if _, ok := New(g, fit, classes); ok != (power(classes-1) <= fit) {
				t.Errorf("New(%d, %d, %d): %v", g, fit, classes, ok)
			}
		}
		if _, ok := New(g, fit+1, 1); ok {
			t.Errorf("New(%d, %d, 1): it is", g, fit+1)
		}
		if _, ok := New(g, fit-1, 1); ok != (fit > 1) {
			t.Errorf("New(%d, %d, 1): %v", g, fit-1, ok)
		}
	}
}

// P11.1: there is an engine just where slots.New has some, of all small granules and classes, and nothing is placed in it.
func TestNewWhereSlotsAre(t *testing.T) {
	for granules := -1; granules <= 70; granules++ {
		for classes := -1; classes <= 8; classes++ {
			s := slots.New(granules, classes)
			e, ok := New(8, granules, classes)
			want := api.Engine{}
			if len(s.Trees) > 0 {
				want = api.Engine{G: 8, Slots: s}
			}
			if ok != (len(s.Trees) > 0) || !same(e, want) {
				t.Errorf("New(8, %d, %d): %v", granules, classes, ok)
			}
		}
	}
}

// step is a Place of class x or, of release, a Release at x, and what it tells.
type step struct {
	release bool
	x, told int
	ok      bool
}

// checkSteps holds each step of the engine against what stands there by hand, and the engine against the plain one.
func checkSteps(t *testing.T, g, granules, classes int, steps []step) {
	t.Helper()
	e, p := must(t, g, granules, classes), plainNew(g, granules, classes)
	for i, s := range steps {
		var told int
		var ok bool
		if s.release {
			e, told, ok = Release(e, s.x)
			p, _, _ = p.release(s.x)
		} else {
			e, told, ok = Place(e, s.x)
			p, _, _ = p.place(s.x)
		}
		if told != s.told || ok != s.ok || !same(e, p.engine()) {
			t.Fatalf("g %d, step %d: %d %v, not %d %v: %v", g, i, told, ok, s.told, s.ok, e.Side)
		}
	}
}

// P11.1: by hand: gaps that are too small are left free and filled later; what is released is given again; of G 1, of G more.
func TestSteps(t *testing.T) {
	for _, g := range []int{1, 2, 4, 64, 4096} {
		checkSteps(t, g, 16, 4, []step{
			{false, 0, 0, true}, {false, 1, 2 * g, true}, {false, 0, g, true}, {false, 3, 8 * g, true}, {false, 2, 4 * g, true}, {false, 0, 0, false}, {false, 3, 0, false},
			{true, 0, 0, true}, {true, 0, 0, false}, {false, 1, 0, false}, {true, g, 0, true}, {false, 1, 0, true}, {false, 1, 0, false},
			{true, 2 * g, 1, true}, {true, 4 * g, 2, true}, {false, 2, 4 * g, true}, {true, 3 * g, 0, false}, {true, 5 * g, 0, false}, {true, -g, 0, false}, {true, 16 * g, 0, false},
			{true, 8 * g, 3, true}, {true, 8 * g, 0, false}, {false, 2, 8 * g, true}, {true, 0, 1, true}, {false, 3, 0, false}, {true, 4 * g, 2, true}, {false, 3, 0, true}, {true, 8 * g, 2, true}, {true, 0, 3, true}, {true, 0, 0, false},
		})
	}
	checkSteps(t, 65536, 1, 1, []step{{true, 0, 0, false}, {false, 0, 0, true}, {false, 0, 0, false}, {true, 65536, 0, false}, {true, 1, 0, false}, {true, 0, 0, true}, {false, 0, 0, true}})
	checkSteps(t, 16, 3, 1, []step{{false, 0, 0, true}, {false, 0, 16, true}, {false, 0, 32, true}, {false, 0, 0, false}, {true, 16, 0, true}, {true, 32, 0, true}, {false, 0, 16, true}, {false, 1, 0, false}})
	checkSteps(t, 2, 24, 4, []step{{false, 0, 0, true}, {false, 3, 16, true}, {false, 3, 32, true}, {false, 3, 0, false}, {false, 2, 8, true}, {false, 1, 4, true}, {false, 1, 0, false}, {false, 0, 2, true}, {false, 0, 0, false}, {true, 32, 3, true}, {false, 0, 32, true}, {false, 3, 0, false}, {false, 1, 36, true}})
}

// P11.1: the chapter's example.
func TestExample(t *testing.T) {
	checkSteps(t, 1, 8, 4, []step{{false, 1, 0, true}, {false, 0, 2, true}, {false, 0, 3, true}, {true, 0, 1, true}, {false, 0, 0, true}})
}

// P11.1, R2: each class is placed, rising, up to where no place is left; one more, and classes that there are not: the engine is as it was.
func TestPlaceUntilFull(t *testing.T) {
	for _, x := range [][3]int{{1, 1, 1}, {1, 64, 7}, {2, 24, 4}, {4, 16, 4}, {16, 130, 2}, {512, 128, 8}, {65536, 1, 1}} {
		g, granules, classes := x[0], x[1], x[2]
		for class := range classes {
			e := must(t, g, granules, classes)
			p := plainNew(g, granules, classes)
			for i := range granules / power(class) {
				next, at, ok := Place(e, class)
				p = p.with(i*power(class), class)
				if at != i*power(class)*g || !ok || !same(next, p.engine()) {
					t.Fatalf("g %d, class %d, block %d: %d %v", g, class, i, at, ok)
				}
				e = next
			}
			for _, more := range []int{0, class, classes - 1, classes, classes + 1, 17, 64, greatest, -1, least} {
				if next, at, ok := Place(e, more); ok || at != 0 || !same(next, p.engine()) {
					t.Errorf("g %d, full of class %d, class %d: %d %v", g, class, more, at, ok)
				}
			}
		}
	}
}

// P11.1: the greatest heap there is: all of it in the greatest class, in the two halves, and in the smallest blocks behind one another.
func TestGreatest(t *testing.T) {
	e := must(t, 1, 65536, 17)
	for class := range 17 {
		next, at, ok := Place(e, class)
		if at != 0 || !ok || !same(next, plainNew(1, 65536, 17).with(0, class).engine()) {
			t.Errorf("class %d: %d %v", class, at, ok)
		}
		other, at, ok := Place(next, 15)
		want := 32768
		if class == 16 {
			want = 0
		}
		if at != want || ok != (class < 16) || class == 16 && !same(other, next) {
			t.Errorf("class %d, then 15: %d %v", class, at, ok)
		}
		if back, told, ok := Release(next, 0); told != class || !ok || !same(back, e) {
			t.Errorf("class %d released: %d %v", class, told, ok)
		}
	}
	for i := range 200 {
		next, at, ok := Place(e, 0)
		if at != i || !ok {
			t.Fatalf("%d: %d %v", i, at, ok)
		}
		e = next
	}
	if _, at, ok := Place(e, 8); at != 256 || !ok {
		t.Errorf("behind 200: %d %v", at, ok)
	}
}

// P11.1: a class that there is not is refused of an engine with all places free, too.
func TestPlaceOfNoClass(t *testing.T) {
	for _, x := range [][3]int{{1, 1, 1}, {4, 16, 4}, {4, 16, 1}, {1, 65536, 17}} {
		e := must(t, x[0], x[1], x[2])
		for _, class := range []int{-1, -2, -64, least, least + 1, x[2], x[2] + 1, 17, 63, 64, 65, 1 << 32, greatest - 1, greatest} {
			if next, at, ok := Place(e, class); ok || at != 0 || !same(next, e) {
				t.Errorf("%v: class %d: %d %v", x, class, at, ok)
			}
		}
	}
}

// P11.1, R2: Release of the first, the last and one between; of where nothing begins: below 0, between two, within a block, behind all; of the only one.
func TestRelease(t *testing.T) {
	p := plainNew(4, 24, 4).with(0, 1).with(2, 0).with(4, 2).with(8, 3).with(17, 0)
	e := p.engine()
	for _, x := range []struct {
		at, class int
		ok        bool
	}{
		{0, 1, true}, {8, 0, true}, {16, 2, true}, {32, 3, true}, {68, 0, true},
		{-1, 0, false}, {-4, 0, false}, {-32, 0, false}, {least, 0, false}, {least + 32, 0, false}, {least + 1, 0, false},
		{12, 0, false}, {64, 0, false}, {4, 0, false}, {20, 0, false}, {24, 0, false}, {28, 0, false}, {36, 0, false}, {48, 0, false}, {60, 0, false},
		{1, 0, false}, {2, 0, false}, {3, 0, false}, {9, 0, false}, {15, 0, false}, {17, 0, false}, {18, 0, false}, {31, 0, false}, {33, 0, false}, {67, 0, false}, {69, 0, false}, {71, 0, false},
		{72, 0, false}, {76, 0, false}, {92, 0, false}, {95, 0, false}, {96, 0, false}, {1 << 16, 0, false}, {1 << 32, 0, false}, {1<<32 + 8, 0, false}, {1 << 62, 0, false}, {greatest - 1, 0, false}, {greatest, 0, false},
	} {
		got, class, ok := Release(e, x.at)
		want := p
		if x.ok {
			want = p.with(x.at/4, none)
		}
		if class != x.class || ok != x.ok || !same(got, want.engine()) {
			t.Errorf("Release at %d: %d %v: %v", x.at, class, ok, got.Side)
		}
	}
	for class := range 4 {
		only := must(t, 4, 24, 4)
		placed, at, _ := Place(only, class)
		if back, told, ok := Release(placed, at); told != class || !ok || !same(back, only) {
			t.Errorf("the only one, of class %d: %d %v", class, told, ok)
		}
	}
}

// P11.1: what was released of a full engine is free again, for its own class and for two of the class below, and just there the same place is given again.
func TestSamePlaceAgain(t *testing.T) {
	for _, g := range []int{1, 4} {
		p := plainNew(g, 24, 4).with(0, 1).with(2, 0).with(3, 0).with(4, 2).with(8, 3).with(16, 2).with(20, 1).with(22, 0).with(23, 0)
		full := p.engine()
		for _, m := range full.Side {
			free, class, ok := Release(full, m.At)
			if class != m.Class || !ok {
				t.Fatalf("Release at %d: %d %v", m.At, class, ok)
			}
			if again, at, ok := Place(free, m.Class); at != m.At || !ok || !same(again, full) {
				t.Errorf("Place of class %d: %d %v, not %d", m.Class, at, ok, m.At)
			}
			if back, at, ok := Place(free, m.Class+1); at != 0 || ok || !same(back, free) {
				t.Errorf("Place of class %d: %d %v: it is too small", m.Class+1, at, ok)
			}
			if m.Class == 0 {
				continue
			}
			half := power(m.Class-1) * g
			one, first, _ := Place(free, m.Class-1)
			two, second, _ := Place(one, m.Class-1)
			if first != m.At || second != m.At+half {
				t.Errorf("two in the place of %v: %d, %d", m, first, second)
			}
			if _, _, ok := Place(two, 0); ok {
				t.Errorf("two in the place of %v: it is not full", m)
			}
		}
	}
}

// checkAll holds each Place and each Release of p's engine against p's, and that a Release undoes a Place and is not done twice.
func checkAll(t *testing.T, p plain) {
	t.Helper()
	e := p.engine()
	for class := -1; class <= p.classes; class++ {
		want, wantAt, wantOK := p.place(class)
		got, at, ok := Place(e, class)
		if at != wantAt || ok != wantOK || !same(got, want.engine()) {
			t.Fatalf("%v: class %d: %d %v, not %d %v", p, class, at, ok, wantAt, wantOK)
		}
		if !ok {
			continue
		}
		if back, told, ok := Release(got, at); told != class || !ok || !same(back, e) {
			t.Fatalf("%v: class %d placed and released: %d %v", p, class, told, ok)
		}
	}
	for at := -p.g - 1; at <= len(p.begins)*p.g+1; at++ {
		want, wantClass, wantOK := p.release(at)
		got, class, ok := Release(e, at)
		if class != wantClass || ok != wantOK || !same(got, want.engine()) {
			t.Fatalf("%v: Release at %d: %d %v, not %d %v", p, at, class, ok, wantClass, wantOK)
		}
		if again, told, okAgain := Release(got, at); okAgain || told != 0 || !same(again, got) {
			t.Fatalf("%v: Release at %d, again: %d %v", p, at, told, okAgain)
		}
	}
}

// everyPlain calls f with each way in which blocks can lie apart, from that granule on.
func everyPlain(p plain, from int, f func(p plain)) {
	if from >= len(p.begins) {
		f(p)
		return
	}
	everyPlain(p, from+1, f)
	for class := range p.classes {
		if from%power(class) == 0 {
			everyPlain(p.with(from, class), from+power(class), f)
		}
	}
}

// P11.1: of small engines all that there can be, and of each all calls.
func TestSmallAsSaidPlainly(t *testing.T) {
	for _, x := range []struct{ g, granules, classes, count int }{
		{1, 1, 1, 2}, {4, 1, 1, 2}, {2, 2, 2, 5}, {1, 3, 1, 8}, {1, 4, 3, 26}, {4, 4, 3, 26}, {2, 6, 2, 125}, {1, 8, 4, 677}, {4, 8, 4, 677}, {8, 8, 3, 676}, {1, 12, 2, 15625},
	} {
		count := 0
		everyPlain(plainNew(x.g, x.granules, x.classes), 0, func(p plain) {
			count++
			checkAll(t, p)
		})
		if count != x.count {
			t.Errorf("%v: there are %d", x, count)
		}
	}
}

// checkApart holds what follows: blocks lie apart, each at a multiple of its size, within all granules, and just theirs are live.
func checkApart(t *testing.T, e api.Engine) {
	t.Helper()
	size := e.Slots.Trees[0].Size * e.G
	owned := make([]bool, size)
	for i, m := range e.Side {
		bytes := e.G * power(m.Class)
		if i > 0 && e.Side[i-1].At >= m.At || m.At%bytes != 0 || m.At+bytes > size {
			t.Fatalf("%v among %v", m, e.Side)
		}
		for at := m.At; at < m.At+bytes; at++ {
			if owned[at] {
				t.Fatalf("byte %d is twice one's: %v", at, e.Side)
			}
			owned[at] = true
		}
	}
	for granule := range e.Slots.Trees[0].Size {
		if tree.Has(e.Slots.Trees[0], granule) != owned[granule*e.G] {
			t.Fatalf("granule %d of %v", granule, e.Side)
		}
	}
	if !slots.May(e.Slots) {
		t.Fatalf("the slots of %v may not be", e.Side)
	}
}

// What follows, and P11.1 through many calls one behind another: of several G, small blocks and great ones mixed.
func TestManyCalls(t *testing.T) {
	for _, x := range [][3]int{{1, 24, 4}, {1, 256, 9}, {4, 64, 7}, {8, 192, 7}, {256, 96, 6}} {
		e, p := must(t, x[0], x[1], x[2]), plainNew(x[0], x[1], x[2])
		u := uint64(0x9e3779b97f4a7c15)
		for i := range 400 {
			u ^= u << 13
			u ^= u >> 7
			u ^= u << 17
			var told, want int
			var ok, wantOK bool
			if u%5 < 3 || len(e.Side) == 0 {
				class := int(u >> 20 % uint64(x[2]+1) * (u >> 50 % 2))
				e, told, ok = Place(e, class)
				p, want, wantOK = p.place(class)
			} else {
				at := e.Side[u>>30%uint64(len(e.Side))].At + int(u>>60%8/7)
				e, told, ok = Release(e, at)
				p, want, wantOK = p.release(at)
			}
			if told != want || ok != wantOK || !same(e, p.engine()) {
				t.Fatalf("%v, call %d: %d %v, not %d %v", x, i, told, ok, want, wantOK)
			}
			checkApart(t, e)
		}
	}
}

// oddEngines are such as New, Place and Release do not tell.
func oddEngines() []api.Engine {
	fine := plainNew(4, 16, 4).with(0, 1).with(8, 3)
	marks := [][]api.Mark{
		nil, {{At: 0, Class: 0}}, {{At: 8, Class: -1}}, {{At: 8, Class: least}}, {{At: 8, Class: 4}}, {{At: 8, Class: 62}}, {{At: 8, Class: 63}}, {{At: 8, Class: 64}}, {{At: 8, Class: greatest}}, {{At: -8, Class: 1}}, {{At: 7, Class: 1}}, {{At: least, Class: 1}}, {{At: greatest, Class: 1}}, {{At: 1 << 40, Class: 3}},
		{{At: 8, Class: 1}, {At: 0, Class: 2}}, {{At: 8, Class: 1}, {At: 8, Class: 2}}, {{At: 0, Class: 3}, {At: 8, Class: 3}},
	}
	trees := [][]api.Tree{
		nil, {{}}, {{Size: greatest}}, {{Size: greatest, Levels: [][]uint64{{all, all}, {all}, {all}, {0}}}}, {{Size: 200, Levels: [][]uint64{{all}, {1}}}}, {{Size: least, Levels: [][]uint64{{0}}}}, {{Size: greatest, Levels: [][]uint64{nil, {0}}}},
		fine.engine().Slots.Trees, {tree.New(16), tree.New(8), tree.New(9)}, {tree.New(1), tree.New(2), tree.New(4)}, {tree.New(16), {}, tree.New(4)}, slices.Repeat([]api.Tree{tree.New(100)}, 130),
	}
	var out []api.Engine
	for _, g := range []int{least, -4, -1, 0, 1, 3, 4, 65536, 65537, 1 << 17, 1 << 62, greatest} {
		for _, side := range marks {
			for _, l := range trees {
				out = append(out, copyOf(api.Engine{G: g, Slots: api.Slots{Trees: l}, Side: side}))
			}
		}
	}
	return append(out, api.Engine{})
}

// R1, R2, R3, R4: no call panics, whatever engine it is handed; beside a no it is as it was; nothing handed in is changed; the same is told again.
func TestOddEnginesEnd(t *testing.T) {
	calls := []func(e api.Engine, x int) (api.Engine, int, bool){Place, Release}
	for i, e := range oddEngines() {
		was := copyOf(e)
		for _, x := range []int{least, least + 1, -8, -1, 0, 1, 2, 3, 4, 7, 8, 62, 63, 64, 65, 129, 130, 1 << 40, greatest - 1, greatest} {
			for k, call := range calls {
				got, told, ok := call(e, x)
				if !ok && (told != 0 || !same(got, e)) {
					t.Fatalf("%d, call %d of %d: %d", i, k, x, told)
				}
				if again, toldAgain, okAgain := call(e, x); told != toldAgain || ok != okAgain || !same(got, again) {
					t.Fatalf("%d, call %d of %d: %d %v, then other", i, k, x, told, ok)
				}
				// What is told of such an engine may be handed in again.
				Place(got, x)
				Release(got, told)
			}
		}
		if !same(e, was) {
			t.Fatalf("%d was changed", i)
		}
	}
}

// R1: of an engine whose G no granule has, or whose mark has a class that there is not, nothing is placed or released, rather than somewhere.
func TestOddEnginesAreRefused(t *testing.T) {
	fine := plainNew(4, 16, 4).with(0, 1).with(8, 3).engine()
	for _, g := range []int{least, -4, -1, 0, 3, 65537, 1 << 17, 1 << 62, greatest} {
		e := api.Engine{G: g, Slots: fine.Slots, Side: fine.Side}
		if got, at, ok := Place(e, 0); ok || at != 0 || !same(got, e) {
			t.Errorf("G %d: Place: %d %v", g, at, ok)
		}
		if got, class, ok := Release(e, 32); ok || class != 0 || !same(got, e) {
			t.Errorf("G %d: Release: %d %v", g, class, ok)
		}
	}
	for _, class := range []int{least, -1, 4, 5, 63, 64, greatest} {
		e := api.Engine{G: 4, Slots: fine.Slots, Side: []api.Mark{{At: 32, Class: class}}}
		if got, told, ok := Release(e, 32); ok || told != 0 || !same(got, e) {
			t.Errorf("class %d: %d %v", class, told, ok)
		}
	}
}

// R3: nil and an empty list are one, with spare room too.
func TestNilAndEmptyAreOne(t *testing.T) {
	fine := must(t, 4, 16, 4)
	spare := []api.Mark{{At: 9, Class: 9}, {At: 9, Class: 9}}
	for _, side := range [][]api.Mark{nil, {}, spare[:0]} {
		e := api.Engine{G: 4, Slots: fine.Slots, Side: side}
		got, at, ok := Place(e, 2)
		if at != 0 || !ok || !same(got, plainNew(4, 16, 4).with(0, 2).engine()) {
			t.Errorf("%#v: %d %v", side, at, ok)
		}
		if got, at, ok := Place(e, 4); at != 0 || ok || !same(got, fine) {
			t.Errorf("%#v: %d %v", side, at, ok)
		}
		if got, class, ok := Release(e, 9); class != 0 || ok || !same(got, fine) {
			t.Errorf("%#v: %d %v", side, class, ok)
		}
	}
	for _, trees := range [][]api.Tree{nil, {}, fine.Slots.Trees[:0]} {
		e := api.Engine{G: 4, Slots: api.Slots{Trees: trees}}
		if got, at, ok := Place(e, 0); at != 0 || ok || !same(got, e) {
			t.Errorf("%#v: %d %v", trees, at, ok)
		}
	}
}

// inSpareRoom tells e with something behind the last of each of its lists.
func inSpareRoom(e api.Engine) api.Engine {
	e = copyOf(e)
	trees := append([]api.Tree(nil), e.Slots.Trees...)
	for k, t := range trees {
		levels := [][]uint64{}
		for _, words := range t.Levels {
			levels = append(levels, append(slices.Clone(words), 7)[:len(words)])
		}
		trees[k].Levels = append(levels, []uint64{5})[:len(levels)]
	}
	e.Slots.Trees = append(trees, api.Tree{Size: 3, Levels: [][]uint64{{1}}})[:len(trees)]
	e.Side = append(e.Side, api.Mark{At: -7, Class: -7}, api.Mark{At: -8, Class: -8})[:len(e.Side)]
	return e
}

// withSpareRoom copies e with what stands just behind the last of each of its lists.
func withSpareRoom(e api.Engine) api.Engine {
	out := api.Engine{G: e.G, Side: slices.Clone(e.Side[:len(e.Side)+2])}
	for _, t := range e.Slots.Trees[:len(e.Slots.Trees)+1] {
		x := api.Tree{Size: t.Size}
		for _, words := range t.Levels[:min(len(t.Levels)+1, cap(t.Levels))] {
			x.Levels = append(x.Levels, slices.Clone(words[:cap(words)]))
		}
		out.Slots.Trees = append(out.Slots.Trees, x)
	}
	return out
}

// spoil writes all over e and its spare room.
func spoil(e api.Engine) {
	spoilTrees(e.Slots.Trees)
	trees := e.Slots.Trees[:cap(e.Slots.Trees)]
	for k := range trees {
		trees[k] = api.Tree{Size: 0xbad}
	}
	side := e.Side[:cap(e.Side)]
	for i := range side {
		side[i] = api.Mark{At: -9, Class: -9}
	}
}

func spoilTrees(trees []api.Tree) {
	for _, t := range trees {
		for _, words := range t.Levels {
			words = words[:cap(words)]
			for i := range words {
				words[i] = 0xbad
			}
		}
		levels := t.Levels[:cap(t.Levels)]
		for i := range levels {
			levels[i] = nil
		}
	}
}

// R3: what is handed in is not changed, its spare room neither, and no answer shares memory with it, beside a no neither.
func TestHandedInIsNotChanged(t *testing.T) {
	fill := plainNew(4, 128, 8).with(0, 1).with(4, 0).with(16, 4).with(64, 5).with(127, 0).engine()
	odd := api.Engine{G: 3, Slots: fill.Slots, Side: fill.Side}
	for i, fill := range []api.Engine{fill, odd} {
		for x := -1; x <= 520; x++ {
			for k, call := range []func(e api.Engine, x int) (api.Engine, int, bool){Place, Release} {
				e := inSpareRoom(fill)
				was := withSpareRoom(e)
				got, _, _ := call(e, x)
				if !same(withSpareRoom(e), was) {
					t.Fatalf("%d: call %d of %d changed it", i, k, x)
				}
				spoil(got)
				if !same(withSpareRoom(e), was) {
					t.Fatalf("%d: call %d of %d: what it told shares memory", i, k, x)
				}
			}
		}
	}
}

// R3: what was told stays as it was, whatever is then done to the engine that was handed in, or asked of what was told.
func TestNothingIsKept(t *testing.T) {
	p := plainNew(4, 64, 7).with(0, 1).with(8, 3)
	for _, call := range []func(e api.Engine) api.Engine{
		func(e api.Engine) api.Engine { out, _, _ := Place(e, 2); return out },
		func(e api.Engine) api.Engine { out, _, _ := Place(e, 6); return out },
		func(e api.Engine) api.Engine { out, _, _ := Release(e, 32); return out },
		func(e api.Engine) api.Engine { out, _, _ := Release(e, 33); return out },
	} {
		e := p.engine()
		got := call(e)
		was := copyOf(got)
		for x := range 70 {
			Place(got, x)
			Release(got, x)
		}
		spoil(e)
		if !same(got, was) || !same(call(p.engine()), was) {
			t.Errorf("%v was changed to %v", was, got)
		}
	}
	one := must(t, 4, 64, 7)
	spoil(one)
	if !same(must(t, 4, 64, 7), plainNew(4, 64, 7).engine()) {
		t.Error("New keeps what it told")
	}
}

// R3: no two trees of what is told share memory, not even where those handed in do.
func TestListsLieApart(t *testing.T) {
	shared := tree.New(8)
	odd := api.Engine{G: 4, Slots: api.Slots{Trees: []api.Tree{shared, shared, shared}}, Side: []api.Mark{{At: 0, Class: 0}}}
	fine := plainNew(4, 64, 7).with(0, 1).with(8, 3).engine()
	for i, tell := range []func() api.Engine{
		func() api.Engine { out, _ := New(4, 64, 7); return out },
		func() api.Engine { out, _, _ := Place(fine, 2); return out },
		func() api.Engine { out, _, _ := Place(fine, 6); return out },
		func() api.Engine { out, _, _ := Release(fine, 32); return out },
		func() api.Engine { out, _, _ := Release(fine, 33); return out },
		func() api.Engine { out, _, _ := Place(odd, 1); return out },
		func() api.Engine { out, _, _ := Place(odd, 3); return out },
		func() api.Engine { out, _, _ := Release(odd, 0); return out },
		func() api.Engine { out, _, _ := Release(odd, 1); return out },
	} {
		was := tell()
		for k := range was.Slots.Trees {
			got := tell()
			spoilTrees(got.Slots.Trees[:k+1])
			if !slices.EqualFunc(got.Slots.Trees[k+1:], was.Slots.Trees[k+1:], sameTree) || !slices.Equal(got.Side, was.Side) {
				t.Errorf("%d: class %d shares memory with one above", i, k)
			}
		}
	}
}
