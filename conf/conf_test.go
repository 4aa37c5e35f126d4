package conf

import (
	"testing"

	"hodman/api"
)

const (
	greatest = 1<<63 - 1
	least    = -1 << 63
)

// good is the document's example.
func good() api.Raw { return api.Raw{Granule: 1, Largest: 4, Limit: 8, Page: 4, Budget: 6} }

// A field of what is asked for, with its bounds.
type field struct {
	name     string
	of       func(r *api.Raw) *int
	from, to int
}

func fields() []field {
	return []field{
		{"Granule", func(r *api.Raw) *int { return &r.Granule }, 1, api.MaxHeap},
		{"Largest", func(r *api.Raw) *int { return &r.Largest }, 1, api.MaxHeap},
		{"Limit", func(r *api.Raw) *int { return &r.Limit }, 1, api.MaxHeap},
		{"Page", func(r *api.Raw) *int { return &r.Page }, 1, api.MaxHeap},
		{"Budget", func(r *api.Raw) *int { return &r.Budget }, 0, api.MaxHeap},
		{"Seed", func(r *api.Raw) *int { return &r.Seed }, 0, 255},
	}
}

func with(r api.Raw, f field, v int) api.Raw {
	*f.of(&r) = v
	return r
}

func checkOf(t *testing.T, r api.Raw, want api.Conf, wantErr api.Errno) {
	t.Helper()
	if c, e := Of(r); c != want || e != wantErr {
		t.Errorf("Of(%+v): %+v %d, not %+v %d", r, c, e, want, wantErr)
	}
}

// plainPower counts up by doubling, so that it shares no way with calc.Up.
func plainPower(v int) int {
	power := 1
	for power < v {
		power += power
	}
	return power
}

// plainOf says P2.1 once more, by loops and sums alone.
func plainOf(r api.Raw) (api.Conf, api.Errno) {
	for _, f := range fields() {
		if v := *f.of(&r); v < f.from || v > f.to {
			return api.Conf{}, api.EConfig
		}
	}
	c := api.Conf{G: plainPower(r.Granule), P: r.Budget, Seed: r.Seed}
	c.N, c.Page = plainPower(r.Largest), plainPower(r.Page)
	if c.N < c.G {
		c.N = c.G
	}
	if c.Page < c.G {
		c.Page = c.G
	}
	for c.M < r.Limit {
		if c.N > c.Page {
			c.M += 2 * c.N
		} else {
			c.M += 2 * c.Page
		}
	}
	c.H = c.M
	for size := c.G; size < c.N; size += size {
		c.L++
		c.H += c.M / 2
	}
	if c.H > api.MaxHeap {
		return api.Conf{}, api.EConfig
	}
	return c, api.OK
}

// P2.1: ordinary inputs, worked out by hand.
func TestOfTells(t *testing.T) {
	for _, x := range []struct {
		r api.Raw
		c api.Conf
	}{
		{good(), api.Conf{G: 1, N: 4, M: 8, L: 2, Page: 4, P: 6, H: 16}},
		{api.Raw{Granule: 5, Largest: 33, Limit: 200, Page: 17, Budget: 3, Seed: 9}, api.Conf{G: 8, N: 64, M: 256, L: 3, Page: 32, P: 3, H: 640, Seed: 9}},
		{api.Raw{Granule: 2, Largest: 8, Limit: 65, Page: 32, Budget: 1}, api.Conf{G: 2, N: 8, M: 128, L: 2, Page: 32, P: 1, H: 256}},
		{api.Raw{Granule: 1, Largest: 1, Limit: 1, Page: 1}, api.Conf{G: 1, N: 1, M: 2, Page: 1, H: 2}},
		{api.Raw{Granule: 4, Largest: 16, Limit: 96, Page: 4, Budget: 2}, api.Conf{G: 4, N: 16, M: 96, L: 2, Page: 4, P: 2, H: 192}},
		{api.Raw{Granule: 4, Largest: 16, Limit: 97, Page: 4, Budget: 2}, api.Conf{G: 4, N: 16, M: 128, L: 2, Page: 4, P: 2, H: 256}},
	} {
		checkOf(t, x.r, x.c, api.OK)
	}
}

// P2.1: Largest and Page below G are taken as G.
func TestOfBelowGranule(t *testing.T) {
	checkOf(t, api.Raw{Granule: 9, Largest: 3, Limit: 5, Page: 2, Budget: 7}, api.Conf{G: 16, N: 16, M: 32, Page: 16, P: 7, H: 32}, api.OK)
	checkOf(t, api.Raw{Granule: 9, Largest: 64, Limit: 5, Page: 2}, api.Conf{G: 16, N: 64, M: 128, L: 2, Page: 16, H: 256}, api.OK)
	checkOf(t, api.Raw{Granule: 9, Largest: 3, Limit: 5, Page: 64}, api.Conf{G: 16, N: 16, M: 128, Page: 64, H: 128}, api.OK)
	// Above Granule, yet not above G.
	checkOf(t, api.Raw{Granule: 9, Largest: 12, Limit: 5, Page: 15}, api.Conf{G: 16, N: 16, M: 32, Page: 16, H: 32}, api.OK)
}

// P2.1: each field at its bounds and one beyond them; beside EConfig nothing is told.
func TestOfBounds(t *testing.T) {
	for _, f := range fields() {
		for _, v := range []int{least, least + 1, -api.MaxHeap, -1, f.from - 1, f.to + 1, 1 << 32, 1<<32 + 1, 1 << 62, greatest} {
			if v < f.from || v > f.to {
				checkOf(t, with(good(), f, v), api.Conf{}, api.EConfig)
			}
		}
		checkOf(t, with(api.Raw{Granule: 1, Largest: 1, Limit: 1, Page: 1}, f, f.from), api.Conf{G: 1, N: 1, M: 2, Page: 1, H: 2}, api.OK)
	}
	// MaxHeap itself is within each bound: what refuses Granule, Largest and Page there is H.
	small := api.Raw{Granule: 1, Largest: 1, Limit: 1, Page: 1}
	for _, x := range []struct {
		name string
		c    api.Conf
		err  api.Errno
	}{
		{"Granule", api.Conf{}, api.EConfig},
		{"Largest", api.Conf{}, api.EConfig},
		{"Limit", api.Conf{G: 1, N: 1, M: api.MaxHeap, Page: 1, H: api.MaxHeap}, api.OK},
		{"Page", api.Conf{}, api.EConfig},
		{"Budget", api.Conf{G: 1, N: 1, M: 2, Page: 1, P: api.MaxHeap, H: 2}, api.OK},
		{"Seed", api.Conf{}, api.EConfig},
	} {
		for _, f := range fields() {
			if f.name == x.name {
				checkOf(t, with(small, f, api.MaxHeap), x.c, x.err)
			}
		}
	}
	checkOf(t, api.Raw{Granule: 1, Largest: 1, Limit: 1, Page: 1, Seed: 255}, api.Conf{G: 1, N: 1, M: 2, Page: 1, H: 2, Seed: 255}, api.OK)
	checkOf(t, api.Raw{}, api.Conf{}, api.EConfig)
}

// P2.1: H just at MaxHeap, and just above it.
func TestOfMostBytes(t *testing.T) {
	for _, x := range []struct {
		r api.Raw
		c api.Conf
	}{
		{api.Raw{Granule: 1, Largest: 1, Limit: 65536, Page: 1}, api.Conf{G: 1, N: 1, M: 65536, Page: 1, H: 65536}},
		{api.Raw{Granule: 1, Largest: 4, Limit: 32768, Page: 1}, api.Conf{G: 1, N: 4, M: 32768, L: 2, Page: 1, H: 65536}},
		{api.Raw{Granule: 1, Largest: 4, Limit: 32769, Page: 1}, api.Conf{}},
		{api.Raw{Granule: 32768, Largest: 1, Limit: 1, Page: 1}, api.Conf{G: 32768, N: 32768, M: 65536, Page: 32768, H: 65536}},
		{api.Raw{Granule: 32769, Largest: 1, Limit: 1, Page: 1}, api.Conf{}},
		{api.Raw{Granule: 1, Largest: 1, Limit: 1, Page: 32768}, api.Conf{G: 1, N: 1, M: 65536, Page: 32768, H: 65536}},
		{api.Raw{Granule: 1, Largest: 1, Limit: 1, Page: 32769}, api.Conf{}},
		{api.Raw{Granule: 16, Largest: 16384, Limit: 1, Page: 1}, api.Conf{}},
		{api.Raw{Granule: 1, Largest: 4096, Limit: 8192, Page: 1}, api.Conf{G: 1, N: 4096, M: 8192, L: 12, Page: 1, H: 57344}},
		{api.Raw{Granule: 1, Largest: 4096, Limit: 8193, Page: 1}, api.Conf{}},
		{api.Raw{Granule: 65536, Largest: 65536, Limit: 65536, Page: 65536, Budget: 65536, Seed: 255}, api.Conf{}},
		{api.Raw{Granule: 1, Largest: 65536, Limit: 65536, Page: 65536}, api.Conf{}},
	} {
		err := api.OK
		if x.c.G == 0 {
			err = api.EConfig
		}
		checkOf(t, x.r, x.c, err)
	}
}

// P2.1: held against the same promise said by loops, round every power of two.
func TestOfAsSaidPlainly(t *testing.T) {
	values := []int{0, api.MaxHeap + 1}
	for shift := 0; shift <= 16; shift++ {
		for _, v := range []int{1<<shift - 1, 1 << shift, 1<<shift + 1} {
			values = append(values, v)
		}
	}
	for _, granule := range values {
		for _, largest := range values {
			for i, page := range values {
				for _, limit := range []int{0, 1, 7, 1000, 4097, 32768, 43690, 65536, 65537} {
					r := api.Raw{Granule: granule, Largest: largest, Limit: limit, Page: page, Budget: 3 * i, Seed: i}
					want, err := plainOf(r)
					checkOf(t, r, want, err)
				}
			}
		}
	}
}

// confs are many that Of tells.
func confs(t *testing.T) []api.Conf {
	t.Helper()
	var out []api.Conf
	for granule := 1; granule <= api.MaxHeap; granule *= 2 {
		for largest := granule; largest <= api.MaxHeap; largest *= 2 {
			for _, page := range []int{1, 16, 4096} {
				for _, limit := range []int{1, 100, 5000, 65536} {
					if c, e := Of(api.Raw{Granule: granule, Largest: largest, Limit: limit, Page: page}); e == api.OK {
						out = append(out, c)
					}
				}
			}
		}
	}
	if len(out) < 200 {
		t.Fatalf("only %d of them", len(out))
	}
	return out
}

// P2.2: Ceil at classes -1, 0, L and L + 1, and far beyond.
func TestCeil(t *testing.T) {
	c := api.Conf{G: 4, N: 32, M: 64, L: 3, Page: 8, P: 9, H: 160}
	for _, x := range []struct{ class, want int }{
		{-1, 0}, {0, 64}, {1, 96}, {2, 128}, {3, 160}, {4, 0}, {5, 0}, {least, 0}, {greatest, 0}, {1 << 32, 0},
	} {
		if got := Ceil(c, x.class); got != x.want {
			t.Errorf("Ceil(%d): %d, not %d", x.class, got, x.want)
		}
	}
	one := api.Conf{G: 1, N: 1, M: 2, Page: 1, H: 2}
	if low, at, high := Ceil(one, -1), Ceil(one, 0), Ceil(one, 1); low != 0 || at != 2 || high != 0 {
		t.Errorf("of one class: %d %d %d", low, at, high)
	}
}

// P2.2: from class to class Ceil grows by M / 2, up to H; what follows: each is a whole number of pages, and of blocks of any class.
func TestCeilOfMany(t *testing.T) {
	for _, c := range confs(t) {
		want := c.M
		for class := 0; class <= c.L; class++ {
			got := Ceil(c, class)
			if got != want || got%c.Page != 0 || got%c.N != 0 {
				t.Errorf("%+v: Ceil(%d): %d, not %d", c, class, got, want)
			}
			want += c.M / 2
		}
		if Ceil(c, c.L) != c.H || Ceil(c, -1) != 0 || Ceil(c, c.L+1) != 0 {
			t.Errorf("%+v: Ceil at L, -1, L + 1: %d %d %d", c, Ceil(c, c.L), Ceil(c, -1), Ceil(c, c.L+1))
		}
	}
}

// P2.2: Shift at charges that are a class's size, that are none, below G and above N.
func TestShift(t *testing.T) {
	c := api.Conf{G: 4, N: 32, M: 64, L: 3, Page: 8, P: 9, H: 160}
	for _, x := range []struct {
		charge, want int
		ok           bool
	}{
		{4, 0, true}, {8, 1, true}, {16, 2, true}, {32, 3, true},
		{0, 0, false}, {1, 0, false}, {2, 0, false}, {3, 0, false},
		{5, 0, false}, {7, 0, false}, {9, 0, false}, {12, 0, false}, {17, 0, false}, {24, 0, false}, {31, 0, false}, {33, 0, false},
		{64, 0, false}, {128, 0, false}, {1 << 62, 0, false}, {greatest, 0, false},
		{-1, 0, false}, {-4, 0, false}, {-8, 0, false}, {-32, 0, false}, {least, 0, false}, {least + 4, 0, false},
	} {
		if got, ok := Shift(c, x.charge); got != x.want || ok != x.ok {
			t.Errorf("Shift(%d): %d %v, not %d %v", x.charge, got, ok, x.want, x.ok)
		}
	}
}

// P2.2: of every charge from -1 to twice N, held against counting up from G.
func TestShiftOfMany(t *testing.T) {
	for _, c := range confs(t) {
		next, class := c.G, 0
		for charge := -1; charge <= 2*c.N; charge++ {
			want, wantOK := 0, false
			if charge == next && class <= c.L {
				want, wantOK = class, true
				next += next
				class++
			}
			if got, ok := Shift(c, charge); got != want || ok != wantOK {
				t.Fatalf("%+v: Shift(%d): %d %v, not %d %v", c, charge, got, ok, want, wantOK)
			}
		}
		if class != c.L+1 {
			t.Errorf("%+v: %d classes", c, class)
		}
	}
}

// R1: a c that is none of Of makes no call panic or go on without end.
func TestConfsOfNobody(t *testing.T) {
	wild := []int{least, least + 1, -1, 0, 1, 3, 64, 1 << 62, greatest}
	for _, g := range wild {
		for _, l := range wild {
			for _, v := range wild {
				c := api.Conf{G: g, N: v, M: v, L: l, Page: g, P: l, H: v}
				for _, asked := range wild {
					Ceil(c, asked)
					Shift(c, asked)
				}
			}
		}
	}
	if class, ok := Shift(api.Conf{}, 0); class != 0 || ok {
		t.Errorf("Shift of nothing: %d %v", class, ok)
	}
	if got := Ceil(api.Conf{}, 0); got != 0 {
		t.Errorf("Ceil of nothing: %d", got)
	}
}
