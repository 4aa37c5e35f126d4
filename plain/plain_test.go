package plain

import (
	"slices"
	"testing"

	"hodman/api"
	"hodman/conf"
)

const (
	greatest = 1<<63 - 1
	least    = -1 << 63
)

// small is of blocks of 2, 4 and 8, 16 live, pages of 4, 32 bytes in all.
func small(budget int) api.Raw {
	return api.Raw{Granule: 2, Largest: 8, Limit: 16, Page: 4, Budget: budget, Seed: 200}
}

// fine is of blocks of 1, 2 and 4, 8 live, pages of 4, 16 bytes in all.
func fine(budget int) api.Raw {
	return api.Raw{Granule: 1, Largest: 4, Limit: 8, Page: 4, Budget: budget, Seed: 5}
}

func malloc(s int) api.Op { return api.Op{Kind: api.Malloc, S: s} }

func calloc(n, s int) api.Op { return api.Op{Kind: api.Calloc, N: n, S: s} }

func align(s, a int) api.Op { return api.Op{Kind: api.Aligned, S: s, A: a} }

func anew(p, s int) api.Op { return api.Op{Kind: api.Realloc, P: p, S: s} }

func free(p int) api.Op { return api.Op{Kind: api.Free, P: p} }

func use(p int) api.Op { return api.Op{Kind: api.Usable, P: p} }

func load(p, n int) api.Op { return api.Op{Kind: api.Load, P: p, N: n} }

func store(p, n int, b byte) api.Op { return api.Op{Kind: api.Store, P: p, N: n, B: b} }

var (
	trim = api.Op{Kind: api.Trim}
	ask  = api.Op{Kind: api.Figures}
)

func at(n int) api.Ans { return api.Ans{At: n} }

func of(n int) api.Ans { return api.Ans{N: n} }

func is(b byte) api.Ans { return api.Ans{Byte: b} }

func refused(e api.Errno) api.Ans { return api.Ans{Err: e} }

func told(live, peak, mark, pages int) api.Ans {
	return api.Ans{Live: live, Peak: peak, Mark: mark, Pages: pages}
}

// done is what stores, frees and trims of nothing are told.
var done api.Ans

type step struct {
	o    api.Op
	want api.Ans
}

func begin(t *testing.T, r api.Raw) api.Model {
	t.Helper()
	m, e := New(r)
	if e != api.OK {
		t.Fatalf("%+v: %d", r, e)
	}
	return m
}

// roomy tells l in memory of its own, with spare room that says if it is written into.
func roomy[T any](l []T, spare T) []T {
	out := make([]T, len(l), len(l)+3)
	copy(out, l)
	for i := len(l); i < cap(out); i++ {
		out[:cap(out)][i] = spare
	}
	return out
}

func spared[T comparable](l []T, spare T) bool {
	for _, v := range l[len(l):cap(l)] {
		if v != spare {
			return false
		}
	}
	return true
}

// scribble writes over all that l has room for.
func scribble[T any](l []T, v T) {
	l = l[:cap(l)]
	for i := range l {
		l[i] = v
	}
}

// do asks a copy of m with spare room, and asks what must hold of every call: what was handed in stays, what is told is new memory, an error changes nothing and is told alone.
func do(t *testing.T, m api.Model, o api.Op) (api.Model, api.Ans) {
	t.Helper()
	handed := m
	handed.Blocks, handed.On, handed.Mem = roomy(m.Blocks, api.Block{At: 77}), roomy(m.On, true), roomy(m.Mem, 77)
	next, a := Do(handed, o)
	out := copied(next)
	scribble(next.Blocks, api.Block{At: -9})
	scribble(next.On, false)
	scribble(next.Mem, 99)
	if !alike(handed, m) || !spared(handed.Blocks, api.Block{At: 77}) || !spared(handed.On, true) || !spared(handed.Mem, 77) {
		t.Fatalf("%+v: %+v: what was handed in is another one", m, o)
	}
	if a.Err != api.OK && (!alike(out, m) || a != refused(a.Err)) {
		t.Fatalf("%+v: %+v: %+v, %+v", m, o, out, a)
	}
	return out, a
}

// alike is as Same should be, but not by it.
func alike(a, b api.Model) bool {
	if a.C != b.C || a.Live != b.Live || a.Peak != b.Peak || a.Mark != b.Mark || len(a.Blocks) != len(b.Blocks) || len(a.On) != len(b.On) || len(a.Mem) != len(b.Mem) {
		return false
	}
	for i, v := range a.Blocks {
		if v != b.Blocks[i] {
			return false
		}
	}
	for i, v := range a.On {
		if v != b.On[i] {
			return false
		}
	}
	return string(a.Mem) == string(b.Mem)
}

// does does the calls, asks what each is told, and tells what there is then.
func does(t *testing.T, m api.Model, l ...step) api.Model {
	t.Helper()
	for i, s := range l {
		next, a := do(t, m, s.o)
		if a != s.want {
			t.Fatalf("%d: %+v: %+v, not %+v", i, s.o, a, s.want)
		}
		m = next
	}
	return m
}

func hasBlocks(t *testing.T, m api.Model, want ...api.Block) {
	t.Helper()
	if !slices.Equal(m.Blocks, want) {
		t.Fatalf("%+v, not %+v", m.Blocks, want)
	}
}

// hasPages asks which pages are there.
func hasPages(t *testing.T, m api.Model, want ...int) {
	t.Helper()
	var got []int
	for i, on := range m.On {
		if on {
			got = append(got, i)
		}
	}
	if !slices.Equal(got, want) {
		t.Fatalf("pages %v, not %v", got, want)
	}
}

func hasMem(t *testing.T, m api.Model, at int, want ...byte) {
	t.Helper()
	if got := m.Mem[at : at+len(want)]; !slices.Equal(got, want) {
		t.Fatalf("bytes from %d on: %v, not %v", at, got, want)
	}
}

// P17.1: the chapter's example.
func TestExample(t *testing.T) {
	for _, r := range []api.Raw{small(8), fine(4), {Granule: 1, Largest: 1, Limit: 1, Page: 1, Budget: 1}, {Granule: 16, Largest: 1, Limit: 1, Page: 1, Budget: 65536}} {
		does(t, begin(t, r), step{malloc(1), at(0)})
	}
}

// P17.1: New of what conf.Of tells: nothing is live, no page is there, Mem is H noughts.
func TestNew(t *testing.T) {
	for _, r := range []api.Raw{small(8), small(0), fine(65536), {Granule: 1, Largest: 1, Limit: 1, Page: 1}, {Granule: 1, Largest: 1, Limit: 65536, Page: 1, Seed: 255}, {Granule: 32768, Largest: 1, Limit: 65536, Page: 1, Budget: 3}, {Granule: 3, Largest: 100, Limit: 700, Page: 30, Budget: 9}} {
		c, _ := conf.Of(r)
		m, e := New(r)
		if e != api.OK || m.C != c || len(m.Blocks) != 0 || m.Live != 0 || m.Peak != 0 || m.Mark != 0 {
			t.Errorf("%+v: %+v %d", r, m.C, e)
		}
		if len(m.On)*c.Page != c.H || slices.Contains(m.On, true) {
			t.Errorf("%+v: pages %v", r, m.On)
		}
		if len(m.Mem) != c.H || slices.ContainsFunc(m.Mem, func(b byte) bool { return b != 0 }) {
			t.Errorf("%+v: bytes %v", r, m.Mem)
		}
	}
	m := begin(t, small(7))
	if m.C != (api.Conf{G: 2, N: 8, M: 16, L: 2, Page: 4, P: 7, H: 32, Seed: 200}) || len(m.On) != 8 || len(m.Mem) != 32 {
		t.Errorf("%+v", m)
	}
}

// P17.1: New of what conf.Of does not tell: its error, and a model that is zero.
func TestNewOfNone(t *testing.T) {
	for _, turn := range []func(r *api.Raw, v int){
		func(r *api.Raw, v int) { r.Granule = v }, func(r *api.Raw, v int) { r.Largest = v }, func(r *api.Raw, v int) { r.Limit = v }, func(r *api.Raw, v int) { r.Page = v },
		func(r *api.Raw, v int) { r.Budget = v }, func(r *api.Raw, v int) { r.Seed = v },
	} {
		for _, v := range []int{-1, 65537, least, greatest} {
			r := small(8)
			turn(&r, v)
			isNone(t, r)
		}
	}
	isNone(t, api.Raw{})
	isNone(t, api.Raw{Granule: 1, Largest: 65536, Limit: 1, Page: 1})
	isNone(t, api.Raw{Granule: 1, Largest: 2, Limit: 65536, Page: 1})
}

func isNone(t *testing.T, r api.Raw) {
	t.Helper()
	m, e := New(r)
	if e != api.EConfig || !alike(m, api.Model{}) {
		t.Errorf("%+v: %+v %d", r, m, e)
	}
}

// P17.1: what New tells is new memory each time.
func TestNewIsNew(t *testing.T) {
	a, b := begin(t, small(8)), begin(t, small(8))
	scribble(a.Mem, 1)
	scribble(a.On, true)
	if !alike(b, begin(t, small(8))) {
		t.Errorf("%+v", b)
	}
}

// P17.1: Same of two that are alike, and of two that differ in just one of all there is.
func TestSame(t *testing.T) {
	m := does(t, begin(t, small(8)), step{malloc(3), at(0)}, step{malloc(1), at(4)}, step{store(4, 1, 9), done})
	other := copied(m)
	if !Same(m, m) || !Same(m, other) || !Same(api.Model{}, api.Model{}) || Same(m, api.Model{}) || Same(api.Model{}, m) {
		t.Errorf("%+v", m)
	}
	for i, turn := range []func(m *api.Model){
		func(m *api.Model) { m.C.G++ }, func(m *api.Model) { m.C.N++ }, func(m *api.Model) { m.C.M++ }, func(m *api.Model) { m.C.L++ },
		func(m *api.Model) { m.C.Page++ }, func(m *api.Model) { m.C.P++ }, func(m *api.Model) { m.C.H++ }, func(m *api.Model) { m.C.Seed++ },
		func(m *api.Model) { m.Live++ }, func(m *api.Model) { m.Peak++ }, func(m *api.Model) { m.Mark++ },
		func(m *api.Model) { m.Blocks[0].At++ }, func(m *api.Model) { m.Blocks[1].Charge++ }, func(m *api.Model) { m.Blocks[1].Asked++ },
		func(m *api.Model) { m.Blocks = m.Blocks[:1] }, func(m *api.Model) { m.Blocks = nil }, func(m *api.Model) { m.Blocks = append(m.Blocks, api.Block{}) },
		func(m *api.Model) { m.On[0] = !m.On[0] }, func(m *api.Model) { m.On[7] = true }, func(m *api.Model) { m.On = m.On[:7] }, func(m *api.Model) { m.On = nil }, func(m *api.Model) { m.On = append(m.On, false) },
		func(m *api.Model) { m.Mem[0]++ }, func(m *api.Model) { m.Mem[31]++ }, func(m *api.Model) { m.Mem = m.Mem[:31] }, func(m *api.Model) { m.Mem = nil }, func(m *api.Model) { m.Mem = append(m.Mem, 0) },
	} {
		x := copied(m)
		turn(&x)
		if Same(x, m) || Same(m, x) || !Same(x, x) {
			t.Errorf("%d: alike", i)
		}
		if !alike(m, other) {
			t.Fatalf("%d: changed", i)
		}
	}
}

// P17.1: nil and an empty list are one.
func TestSameOfEmpty(t *testing.T) {
	for i, turn := range []func(m *api.Model){func(m *api.Model) { m.Blocks = []api.Block{} }, func(m *api.Model) { m.On = []bool{} }, func(m *api.Model) { m.Mem = []byte{} }, func(m *api.Model) { m.Blocks = make([]api.Block, 0, 5) }} {
		var x api.Model
		turn(&x)
		if !Same(x, api.Model{}) || !Same(api.Model{}, x) {
			t.Errorf("%d: not alike", i)
		}
	}
}

// P17.2: another Kind: EArg, whatever else is asked.
func TestKinds(t *testing.T) {
	m := does(t, begin(t, small(8)), step{malloc(3), at(0)})
	for _, kind := range []int{0, 11, 12, -1, -10, 256 + api.Malloc, 1<<32 + api.Trim, least, least + api.Malloc, greatest} {
		does(t, m, step{api.Op{Kind: kind}, refused(api.EArg)}, step{api.Op{Kind: kind, P: 0, S: 1, A: 1, N: 1, B: 1}, refused(api.EArg)}, step{api.Op{Kind: kind, P: -1, S: -1, A: -1, N: -1}, refused(api.EArg)})
	}
}

// P17.2: each Kind asks only for its own numbers.
func TestKindsAskTheirOwn(t *testing.T) {
	m := does(t, begin(t, small(8)), step{malloc(3), at(0)}, step{store(0, 1, 9), done})
	for _, wild := range []int{-5, 3, least, greatest} {
		does(t, m,
			step{api.Op{Kind: api.Malloc, S: 1, P: wild, A: wild, N: wild, B: 7}, at(4)},
			step{api.Op{Kind: api.Calloc, N: 1, S: 1, P: wild, A: wild, B: 7}, at(6)},
			step{api.Op{Kind: api.Aligned, S: 1, A: 8, P: wild, N: wild, B: 7}, at(8)},
			step{api.Op{Kind: api.Realloc, P: 8, S: 1, A: wild, N: wild, B: 7}, at(8)},
			step{api.Op{Kind: api.Usable, P: 0, S: wild, A: wild, N: wild, B: 7}, of(4)},
			step{api.Op{Kind: api.Load, P: 0, N: 1, S: wild, A: wild, B: 7}, is(9)},
			step{api.Op{Kind: api.Store, P: 0, N: 2, S: wild, A: wild, B: 7}, done},
			step{api.Op{Kind: api.Free, P: 8, S: wild, A: wild, N: wild, B: 7}, done},
			step{api.Op{Kind: api.Trim, P: wild, S: wild, A: wild, N: wild, B: 7}, of(2)},
			step{api.Op{Kind: api.Figures, P: wild, S: wild, A: wild, N: wild, B: 7}, told(8, 16, 16, 2)})
	}
}

// P17.2: Malloc and Aligned of each size; what was asked for is kept, and the blocks rise.
func TestPlaces(t *testing.T) {
	m := does(t, begin(t, small(8)), step{malloc(1), at(0)}, step{malloc(3), at(4)}, step{malloc(0), at(2)}, step{ask, told(8, 8, 8, 2)}, step{malloc(5), at(8)}, step{ask, told(16, 16, 16, 4)})
	hasBlocks(t, m, api.Block{At: 0, Charge: 2, Asked: 1}, api.Block{At: 2, Charge: 2, Asked: 0}, api.Block{At: 4, Charge: 4, Asked: 3}, api.Block{At: 8, Charge: 8, Asked: 5})
	hasPages(t, m, 0, 1, 2, 3)
	m = does(t, begin(t, small(8)), step{align(1, 8), at(0)}, step{align(1, 1), at(8)}, step{align(0, 4), at(12)}, step{align(2, 2), at(10)}, step{ask, told(16, 16, 16, 4)})
	hasBlocks(t, m, api.Block{At: 0, Charge: 8, Asked: 1}, api.Block{At: 8, Charge: 2, Asked: 1}, api.Block{At: 10, Charge: 2, Asked: 2}, api.Block{At: 12, Charge: 4, Asked: 0})
}

// P17.2: the lowest place is below others, between others, and not where it is too small or no multiple.
func TestLowestPlace(t *testing.T) {
	full := does(t, begin(t, fine(4)), step{malloc(1), at(0)}, step{malloc(1), at(1)}, step{malloc(1), at(2)}, step{malloc(1), at(3)}, step{malloc(1), at(4)}, step{malloc(1), at(5)}, step{malloc(1), at(6)}, step{malloc(1), at(7)})
	does(t, full, step{free(0), done}, step{malloc(1), at(0)}, step{free(3), done}, step{malloc(1), at(3)}, step{free(7), done}, step{malloc(1), at(7)})
	does(t, full, step{free(5), done}, step{free(2), done}, step{malloc(1), at(2)}, step{malloc(1), at(5)})
	// two bytes are free side by side, but not from a multiple of two on
	does(t, full, step{free(1), done}, step{free(2), done}, step{malloc(2), at(8)}, step{ask, told(8, 8, 10, 3)})
	does(t, full, step{free(2), done}, step{free(3), done}, step{malloc(2), at(2)}, step{free(0), done}, step{free(1), done}, step{malloc(2), at(0)})
	does(t, full, step{free(2), done}, step{free(3), done}, step{free(4), done}, step{free(5), done}, step{malloc(4), at(8)})
	does(t, full, step{free(4), done}, step{free(5), done}, step{free(6), done}, step{free(7), done}, step{malloc(3), at(4)})
	does(t, full, step{free(0), done}, step{free(1), done}, step{free(2), done}, step{free(3), done}, step{malloc(4), at(0)})
}

// P17.2: a place is free of all blocks, also where one lies within another (which is none of what Do tells).
func TestLowestPlaceOfBlocksWithin(t *testing.T) {
	m := begin(t, fine(4))
	m.Blocks = []api.Block{{At: 0, Charge: 8}, {At: 2, Charge: 1}, {At: 4, Charge: 2}}
	does(t, m, step{malloc(1), at(8)}, step{malloc(4), at(12)}, step{free(4), done}, step{free(2), done}, step{malloc(1), at(9)}, step{free(0), done}, step{malloc(2), at(0)})
}

// highest does what drives the small one to the end of H.
func highest() []step {
	var out []step
	for i := range 8 {
		out = append(out, step{malloc(2), at(2 * i)})
	}
	out = append(out, step{ask, told(16, 16, 16, 4)}, step{free(2), done}, step{free(6), done}, step{free(10), done}, step{free(14), done})
	out = append(out, step{malloc(4), at(16)}, step{malloc(3), at(20)}, step{ask, told(16, 16, 24, 6)}, step{free(4), done}, step{free(12), done}, step{free(20), done})
	return append(out, step{malloc(8), at(24)}, step{ask, told(16, 16, 32, 8)}, step{malloc(0), refused(api.ELimit)})
}

// P17.2: a place at the end of H.
func TestPlaceAtEnd(t *testing.T) {
	m := does(t, begin(t, small(8)), highest()...)
	hasBlocks(t, m, api.Block{At: 0, Charge: 2, Asked: 2}, api.Block{At: 8, Charge: 2, Asked: 2}, api.Block{At: 16, Charge: 4, Asked: 4}, api.Block{At: 24, Charge: 8, Asked: 8})
	does(t, m, step{store(24, 7, 1), done}, step{load(24, 7), is(1)}, step{load(24, 8), refused(api.EBound)}, step{trim, of(3)}, step{free(24), done}, step{ask, told(8, 16, 32, 5)}, step{malloc(8), at(24)})
}

// P17.2: EPlace, which never is of what New and Do tell: where more is live than M says, there is no room.
func TestNoPlace(t *testing.T) {
	m := begin(t, fine(4))
	for i := range 4 {
		m.Blocks = append(m.Blocks, api.Block{At: 4 * i, Charge: 1, Asked: 1})
	}
	m.Live = 4
	does(t, m, step{malloc(4), refused(api.EPlace)}, step{calloc(2, 2), refused(api.EPlace)}, step{align(1, 4), refused(api.EPlace)}, step{malloc(2), at(2)})
	does(t, m, step{anew(0, 4), at(0)})
	does(t, m, step{anew(12, 4), at(12)})
	m.Blocks[0].Charge, m.Live = 2, 5
	m.Blocks = slices.Insert(m.Blocks, 1, api.Block{At: 2, Charge: 1})
	does(t, m, step{anew(0, 4), refused(api.EPlace)}, step{anew(2, 4), refused(api.EPlace)}, step{anew(8, 3), at(8)})
	// ELimit is told ahead of EPlace, and EPlace of ECommit
	m.C.P = 0
	does(t, m, step{malloc(3), refused(api.ELimit)}, step{anew(0, 4), refused(api.EPlace)}, step{malloc(1), refused(api.ECommit)})
}

// P17.2: admit's errors, one ahead of the other, of each that places.
func TestAdmitErrors(t *testing.T) {
	m := does(t, begin(t, small(8)), step{malloc(8), at(0)}, step{malloc(4), at(8)}, step{malloc(2), at(12)})
	does(t, m,
		step{malloc(-1), refused(api.ESize)}, step{malloc(9), refused(api.ESize)}, step{malloc(least), refused(api.ESize)}, step{malloc(greatest), refused(api.ESize)}, step{malloc(3), refused(api.ELimit)}, step{malloc(8), refused(api.ELimit)},
		step{align(1, 0), refused(api.EAlign)}, step{align(1, 3), refused(api.EAlign)}, step{align(1, 16), refused(api.EAlign)}, step{align(1, -1), refused(api.EAlign)}, step{align(1, least), refused(api.EAlign)}, step{align(1, greatest), refused(api.EAlign)}, step{align(9, 3), refused(api.EAlign)},
		step{align(9, 8), refused(api.ESize)}, step{align(-1, 4), refused(api.ESize)}, step{align(1, 4), refused(api.ELimit)}, step{align(0, 8), refused(api.ELimit)},
		step{calloc(-1, 1), refused(api.EArg)}, step{calloc(1, -1), refused(api.EArg)}, step{calloc(-1, -1), refused(api.EArg)}, step{calloc(least, 9), refused(api.EArg)}, step{calloc(0, least), refused(api.EArg)},
		step{calloc(3, 3), refused(api.ESize)}, step{calloc(9, 1), refused(api.ESize)}, step{calloc(greatest, greatest), refused(api.ESize)}, step{calloc(1<<32, 1<<32), refused(api.ESize)}, step{calloc(1, 3), refused(api.ELimit)}, step{calloc(2, 2), refused(api.ELimit)},
		step{ask, told(14, 14, 14, 4)}, step{calloc(0, greatest), at(14)}, step{malloc(0), refused(api.ELimit)}, step{ask, told(16, 16, 16, 4)})
}

// P17.2: ECommit: as many as would be met are above P; of none, of one, of just as many as there may be.
func TestCommitRefused(t *testing.T) {
	does(t, begin(t, small(0)), step{malloc(1), refused(api.ECommit)}, step{malloc(9), refused(api.ESize)}, step{calloc(1, 1), refused(api.ECommit)}, step{align(1, 8), refused(api.ECommit)}, step{trim, of(0)}, step{ask, told(0, 0, 0, 0)})
	does(t, begin(t, small(1)), step{malloc(5), refused(api.ECommit)}, step{malloc(4), at(0)}, step{malloc(1), refused(api.ECommit)}, step{anew(0, 1), at(0)}, step{malloc(2), at(2)}, step{malloc(2), refused(api.ECommit)}, step{anew(2, 3), refused(api.ECommit)}, step{ask, told(4, 4, 4, 1)})
	m := does(t, begin(t, small(3)), step{malloc(8), at(0)}, step{malloc(2), at(8)}, step{malloc(3), refused(api.ECommit)}, step{malloc(2), at(10)}, step{calloc(1, 1), refused(api.ECommit)}, step{ask, told(12, 12, 12, 3)})
	hasPages(t, m, 0, 1, 2)
	hasBlocks(t, m, api.Block{At: 0, Charge: 8, Asked: 8}, api.Block{At: 8, Charge: 2, Asked: 2}, api.Block{At: 10, Charge: 2, Asked: 2})
}

// P17.2: a commit that lets pages go lets all of them go that are neither met nor the place's, and only where there are too many.
func TestCommitLetsGo(t *testing.T) {
	m := does(t, begin(t, small(4)), step{malloc(8), at(0)}, step{malloc(4), at(8)}, step{malloc(2), at(12)}, step{free(8), done}, step{free(0), done}, step{ask, told(2, 14, 14, 4)})
	hasPages(t, m, 0, 1, 2, 3)
	// all of the place are there: none goes
	hasPages(t, does(t, m, step{malloc(8), at(0)}), 0, 1, 2, 3)
	m = does(t, begin(t, small(3)), step{malloc(4), at(0)}, step{malloc(4), at(4)}, step{malloc(4), at(8)}, step{free(0), done}, step{free(4), done}, step{malloc(2), at(0)})
	hasPages(t, m, 0, 1, 2)
	// the place of 8 would be pages 4 and 5; 0 and 2 are met: one too many, and page 1, which nothing meets, stays
	hasPages(t, does(t, m, step{malloc(8), refused(api.ECommit)}), 0, 1, 2)
	m = does(t, m, step{free(0), done}, step{anew(8, 2), at(0)}, step{ask, told(2, 12, 12, 3)}, step{malloc(8), at(8)})
	hasPages(t, m, 0, 2, 3)
	hasMem(t, m, 12, 38, 45, 52, 59)
}

// P17.2: what is fresh is filled, and nothing else is; what went and comes again is filled again.
func TestFresh(t *testing.T) {
	m := does(t, begin(t, small(8)), step{malloc(2), at(0)})
	// 200 and 1, and 7 more each; of page 1 31 more
	hasMem(t, m, 0, 201, 208, 215, 222, 0, 0)
	m = does(t, m, step{store(0, 0, 1), done}, step{malloc(2), at(2)}, step{load(2, 0), is(215)}, step{store(2, 1, 2), done}, step{malloc(8), at(8)})
	hasMem(t, m, 0, 1, 208, 215, 2, 0, 0, 0, 0, 7, 14, 21, 28, 38, 45, 52, 59, 0)
	m = does(t, m, step{free(0), done}, step{free(2), done}, step{malloc(4), at(0)})
	hasMem(t, m, 0, 1, 208, 215, 2)
	m = does(t, m, step{free(0), done}, step{trim, of(1)})
	hasMem(t, m, 0, 1, 208, 215, 2)
	m = does(t, m, step{malloc(1), at(0)})
	hasMem(t, m, 0, 201, 208, 215, 222)
	if got := begin(t, api.Raw{Granule: 1, Largest: 1, Limit: 1, Page: 1, Budget: 1}); does(t, got, step{malloc(1), at(0)}).Mem[0] != 1 {
		t.Error(got)
	}
}

// P17.2: Calloc clears all that is charged, behind what is filled, and nothing else; what was asked for is N times S.
func TestCalloc(t *testing.T) {
	m := does(t, begin(t, small(8)), step{calloc(1, 1), at(0)})
	hasMem(t, m, 0, 0, 0, 215, 222, 0)
	m = does(t, m, step{calloc(5, 1), at(8)}, step{malloc(2), at(2)}, step{calloc(0, 7), at(4)}, step{calloc(7, 0), at(6)})
	hasMem(t, m, 0, 0, 0, 215, 222, 0, 0, 0, 0, 0, 0, 0, 0, 0, 0, 0, 0)
	hasBlocks(t, m, api.Block{At: 0, Charge: 2, Asked: 1}, api.Block{At: 2, Charge: 2, Asked: 2}, api.Block{At: 4, Charge: 2}, api.Block{At: 6, Charge: 2}, api.Block{At: 8, Charge: 8, Asked: 5})
	// what was stored there is cleared, too, also behind what was asked for
	m = does(t, begin(t, small(8)), step{malloc(8), at(0)}, step{store(0, 0, 1), done}, step{store(0, 3, 1), done}, step{store(0, 7, 1), done}, step{free(0), done}, step{calloc(3, 1), at(0)}, step{load(0, 0), is(0)}, step{load(0, 3), is(0)}, step{use(0), of(4)}, step{ask, told(4, 8, 8, 2)})
	hasMem(t, m, 0, 0, 0, 0, 0, 232, 239, 246, 1)
	m = does(t, m, step{free(0), done}, step{calloc(2, 3), at(0)}, step{load(0, 7), is(0)})
	hasBlocks(t, m, api.Block{At: 0, Charge: 8, Asked: 6})
	hasMem(t, m, 0, 0, 0, 0, 0, 0, 0, 0, 0)
}
