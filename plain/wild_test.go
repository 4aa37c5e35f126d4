package plain

import (
	"testing"

	"hodman/api"
)

// numbers are as small and as great as an int can be, near powers of two, and near nought.
func numbers() []int {
	out := []int{least, least + 1, greatest - 1, greatest, 3037000500}
	for _, shift := range []int{16, 31, 32, 61, 62} {
		out = append(out, 1<<shift, 1<<shift-1, -1<<shift)
	}
	for i := -3; i <= 9; i++ {
		out = append(out, i)
	}
	return out
}

// some is a model with blocks, pages that are there and such that are not, and bytes that were stored.
func some(t *testing.T) api.Model {
	t.Helper()
	return does(t, begin(t, small(6)), step{malloc(2), at(0)}, step{malloc(4), at(4)}, step{malloc(8), at(8)}, step{store(4, 1, 9), done}, step{free(0), done}, step{anew(8, 4), at(0)}, step{trim, of(2)})
}

// everyKind asks for each Kind, with these numbers.
func everyKind(p, s, a, n int) []api.Op {
	var out []api.Op
	for kind := -1; kind <= 12; kind++ {
		out = append(out, api.Op{Kind: kind, P: p, S: s, A: a, N: n, B: 3})
	}
	return out
}

// ends does each Kind of call, some of which are let in; do asks that nothing that was handed in is another one, and that an error changes nothing.
func ends(t *testing.T, m api.Model) {
	t.Helper()
	for _, o := range everyKind(0, 1, 1, 1) {
		do(t, m, o)
	}
	for _, p := range []int{4, -4, least, greatest, 1 << 61} {
		for _, o := range everyKind(p, 4, 4, 3) {
			do(t, m, o)
		}
	}
	for _, o := range everyKind(4, 1<<61, 1<<61, 1<<60) {
		do(t, m, o)
	}
}

// No call panics, and each ends and is alone in its error, whatever is asked of a model that is one.
func TestWildCalls(t *testing.T) {
	m := some(t)
	s := sayNew(m.C)
	for _, b := range m.Blocks {
		s.charge[b.At], s.asked[b.At] = b.Charge, b.Asked
	}
	copy(s.on, m.On)
	copy(s.mem, m.Mem)
	s.peak, s.mark = m.Peak, m.Mark
	for _, v := range numbers() {
		for _, w := range numbers() {
			for _, o := range append(append(everyKind(v, w, 1, w), everyKind(4, 1, v, w)...), everyKind(0, w, w, v)...) {
				then := s.again()
				holds(t, m, &then, o)
			}
		}
		then := s.again()
		holds(t, m, &then, api.Op{Kind: v, P: v, S: v, A: v, N: v})
	}
}

// No call panics of a model that is zero: there is nothing, and no room.
func TestZeroModel(t *testing.T) {
	for _, m := range []api.Model{{}, {Blocks: []api.Block{}, On: []bool{}, Mem: []byte{}}} {
		ends(t, m)
		does(t, m, step{malloc(0), refused(api.EAlign)}, step{calloc(0, 0), refused(api.EAlign)}, step{align(0, 1), refused(api.EAlign)}, step{anew(0, 0), refused(api.EPtr)}, step{free(0), refused(api.EPtr)}, step{use(0), refused(api.EPtr)}, step{load(0, 0), refused(api.EPtr)}, step{store(0, 0, 1), refused(api.EPtr)}, step{trim, of(0)}, step{ask, told(0, 0, 0, 0)}, step{api.Op{}, refused(api.EArg)})
	}
}

// No call panics, and each ends, where one or two numbers of the model are any.
func TestWildModels(t *testing.T) {
	turns := []func(m *api.Model, v int){
		func(m *api.Model, v int) { m.C.G = v }, func(m *api.Model, v int) { m.C.N = v }, func(m *api.Model, v int) { m.C.M = v }, func(m *api.Model, v int) { m.C.L = v },
		func(m *api.Model, v int) { m.C.Page = v }, func(m *api.Model, v int) { m.C.P = v }, func(m *api.Model, v int) { m.C.H = v }, func(m *api.Model, v int) { m.C.Seed = v },
		func(m *api.Model, v int) { m.Live = v }, func(m *api.Model, v int) { m.Peak = v }, func(m *api.Model, v int) { m.Mark = v },
		func(m *api.Model, v int) { m.Blocks[0].At = v }, func(m *api.Model, v int) { m.Blocks[1].At = v }, func(m *api.Model, v int) { m.Blocks[0].Charge = v }, func(m *api.Model, v int) { m.Blocks[1].Charge = v }, func(m *api.Model, v int) { m.Blocks[1].Asked = v },
		func(m *api.Model, v int) { m.On = make([]bool, v&15) }, func(m *api.Model, v int) { m.Mem = m.Mem[:v&31] },
	}
	m := some(t)
	for _, v := range numbers() {
		for i, turn := range turns {
			one := copied(m)
			turn(&one, v)
			ends(t, one)
			for _, other := range turns[i+1:] {
				for _, w := range []int{least, -1, 0, 1 << 62, greatest} {
					two := copied(one)
					other(&two, w)
					ends(t, two)
				}
			}
		}
	}
}

// No call panics where nothing is told of pages: then any place is let in, however high, and bytes that are not there are left out.
func TestWildPlaces(t *testing.T) {
	for _, page := range []int{0, -1, least} {
		m := api.Model{C: api.Conf{G: 1, N: 1 << 61, M: greatest, L: 61, Page: page, H: greatest}, Mem: make([]byte, 10)}
		for _, o := range []api.Op{malloc(4), calloc(1<<30, 1<<30), malloc(1 << 61), store(0, 3, 7), anew(0, 1<<60), malloc(8), anew(1<<61, 1<<60), load(1<<60, 9), store(1<<60, 0, 1), free(1 << 60), trim, ask} {
			m, _ = do(t, m, o)
		}
		ends(t, m)
	}
}

// No call panics, and each ends, of blocks that lie in any order, over one another, and that are there more than once.
func TestWildBlocks(t *testing.T) {
	c := chance(23)
	wild := numbers()
	for range 2000 {
		m := begin(t, small(8))
		for range c.below(6) {
			b := api.Block{At: c.below(40) - 4, Charge: c.below(20) - 3, Asked: 1}
			if c.below(4) == 0 {
				b.At = wild[c.below(len(wild))]
			}
			if c.below(4) == 0 {
				b.Charge = wild[c.below(len(wild))]
			}
			m.Blocks = append(m.Blocks, b)
		}
		for range 8 {
			m, _ = do(t, m, c.op(m))
		}
	}
}

// The greatest heaps: each call ends soon, also where a page is one byte and thousands of them are fresh.
func TestGreatest(t *testing.T) {
	for _, r := range []api.Raw{
		{Granule: 1, Largest: 4096, Limit: 8192, Page: 1, Budget: 65536, Seed: 1}, {Granule: 32768, Largest: 32768, Limit: 65536, Page: 1, Budget: 2, Seed: 255}, {Granule: 1, Largest: 1, Limit: 65536, Page: 1, Budget: 65536},
	} {
		m := begin(t, r)
		n := m.C.N
		for range 20 {
			m = does(t, m, step{malloc(n), at(0)}, step{malloc(n), at(n)}, step{ask, told(2*n, 2*n, 2*n, 2*n/m.C.Page)}, step{load(n, n-1), is(byte(m.C.Seed + 31*(2*n/m.C.Page-1) + 7*((2*n-1)%m.C.Page) + 1))}, step{free(0), done}, step{anew(n, n), at(0)}, step{free(0), done}, step{trim, of(2 * n / m.C.Page)})
		}
	}
}
