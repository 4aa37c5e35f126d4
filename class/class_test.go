package class

import (
	"math/big"
	"testing"

	"hodman/api"
	"hodman/conf"
)

const (
	greatest = 1<<63 - 1
	least    = -1 << 63
	root     = 3037000499 // the greatest number whose square fits into an int
)

// Some that conf.Of tells: of four classes, of one with G and N the same, the least there is, one of many classes, one of the greatest blocks.
var (
	small  = api.Conf{G: 4, N: 32, M: 64, L: 3, Page: 8, P: 9, H: 160}
	single = api.Conf{G: 16, N: 16, M: 32, Page: 16, P: 7, H: 32}
	tiny   = api.Conf{G: 1, N: 1, M: 2, Page: 1, H: 2}
	wide   = api.Conf{G: 1, N: 4096, M: 8192, L: 12, Page: 1, H: 57344}
	great  = api.Conf{G: 32768, N: 32768, M: 65536, Page: 32768, H: 65536}
)

// confs are one of conf.Of for each G and N that it tells.
func confs(t *testing.T) []api.Conf {
	t.Helper()
	var out []api.Conf
	for granule := 1; granule <= api.MaxHeap; granule += granule {
		for largest := granule; largest <= api.MaxHeap; largest += largest {
			if c, e := conf.Of(api.Raw{Granule: granule, Largest: largest, Limit: 1, Page: 1}); e == api.OK {
				out = append(out, c)
			}
		}
	}
	if len(out) < 100 {
		t.Fatalf("only %d of them", len(out))
	}
	return out
}

// wild are numbers that may stand anywhere in a configuration that conf.Of does not tell, or be asked for.
func wild() []int {
	return []int{least, least + 1, -1 << 62, -1 << 32, -65, -64, -3, -2, -1, 0, 1, 2, 3, 4, 5, 7, 8, 12, 62, 63, 64, 65, 1 << 16, 1<<16 + 1, 1 << 32, root, root + 1, 1<<62 - 1, 1 << 62, 1<<62 + 1, greatest - 1, greatest}
}

// wildConfs are configurations that conf.Of does not tell, with G, N and L at odds.
func wildConfs() []api.Conf {
	var out []api.Conf
	for _, g := range wild() {
		for _, n := range wild() {
			for _, l := range []int{least, -1, 0, 1, 5, 62, 63, 64, greatest} {
				out = append(out, api.Conf{G: g, N: n, M: n, L: l, Page: g, P: l, H: g})
			}
		}
	}
	return out
}

type asked struct {
	c       api.Conf
	a, b    int
	want    int
	wantErr api.Errno
}

func checkCharge(t *testing.T, x asked) {
	t.Helper()
	if got, e := Charge(x.c, x.a, x.b); got != x.want || e != x.wantErr {
		t.Fatalf("%+v: Charge(%d, %d): %d %d, not %d %d", x.c, x.a, x.b, got, e, x.want, x.wantErr)
	}
}

func checkProduct(t *testing.T, x asked) {
	t.Helper()
	if got, e := Product(x.c, x.a, x.b); got != x.want || e != x.wantErr {
		t.Fatalf("%+v: Product(%d, %d): %d %d, not %d %d", x.c, x.a, x.b, got, e, x.want, x.wantErr)
	}
}

func checkClass(t *testing.T, c api.Conf, charge, want int, wantOK bool) {
	t.Helper()
	if got, ok := Class(c, charge); got != want || ok != wantOK {
		t.Fatalf("%+v: Class(%d): %d %v, not %d %v", c, charge, got, ok, want, wantOK)
	}
}

// The tables below hold of what conf.Of tells.
func TestConfsOfTables(t *testing.T) {
	for _, c := range []api.Conf{small, single, tiny, wide, great} {
		if got, e := conf.Of(api.Raw{Granule: c.G, Largest: c.N, Limit: c.M, Page: c.Page, Budget: c.P, Seed: c.Seed}); got != c || e != api.OK {
			t.Errorf("%+v: %+v %d", c, got, e)
		}
	}
}

// P7.1: the chapter's example.
func TestExample(t *testing.T) {
	c, e := conf.Of(api.Raw{Granule: 1, Largest: 8, Limit: 1, Page: 1})
	if e != api.OK {
		t.Fatal(e)
	}
	checkCharge(t, asked{c, 5, 1, 8, api.OK})
}

// P7.1: Charge where s is the greatest of s, a, G, where a is, where G is, and at the edges of each.
func TestCharge(t *testing.T) {
	for _, x := range []asked{
		{small, 0, 1, 4, 0}, {small, 1, 1, 4, 0}, {small, 2, 1, 4, 0}, {small, 3, 1, 4, 0}, {small, 4, 1, 4, 0}, {small, 5, 1, 8, 0}, {small, 7, 1, 8, 0}, {small, 8, 1, 8, 0}, {small, 9, 1, 16, 0}, {small, 15, 1, 16, 0}, {small, 16, 1, 16, 0}, {small, 17, 1, 32, 0}, {small, 31, 1, 32, 0}, {small, 32, 1, 32, 0},
		{small, 0, 2, 4, 0}, {small, 3, 2, 4, 0}, {small, 5, 2, 8, 0}, {small, 0, 4, 4, 0}, {small, 4, 4, 4, 0}, {small, 5, 4, 8, 0}, {small, 0, 8, 8, 0}, {small, 1, 8, 8, 0}, {small, 8, 8, 8, 0}, {small, 9, 8, 16, 0}, {small, 0, 16, 16, 0}, {small, 16, 16, 16, 0}, {small, 17, 16, 32, 0},
		{small, 0, 32, 32, 0}, {small, 1, 32, 32, 0}, {small, 31, 32, 32, 0}, {small, 32, 32, 32, 0}, {small, 32, 4, 32, 0},
		{single, 0, 1, 16, 0}, {single, 1, 1, 16, 0}, {single, 15, 8, 16, 0}, {single, 16, 1, 16, 0}, {single, 0, 16, 16, 0}, {single, 16, 16, 16, 0},
		{tiny, 0, 1, 1, 0}, {tiny, 1, 1, 1, 0},
		{wide, 0, 1, 1, 0}, {wide, 1, 1, 1, 0}, {wide, 2, 1, 2, 0}, {wide, 3, 1, 4, 0}, {wide, 1000, 1, 1024, 0}, {wide, 2048, 1, 2048, 0}, {wide, 2049, 1, 4096, 0}, {wide, 4096, 1, 4096, 0}, {wide, 0, 4096, 4096, 0}, {wide, 1000, 256, 1024, 0}, {wide, 100, 256, 256, 0},
		{great, 0, 1, 32768, 0}, {great, 32768, 32768, 32768, 0},
	} {
		checkCharge(t, x)
	}
}

// P7.1: Charge with a wrong a, a wrong s, and both wrong: EAlign is told ahead of ESize; R2: 0 beside an error.
func TestChargeRefuses(t *testing.T) {
	for _, c := range []api.Conf{small, single, tiny, wide, great} {
		for _, a := range []int{0, -1, -2, -4, -8, least, least + 1, least / 2, 3, 5, 6, 7, 12, 24, 31, c.N + 1, 2 * c.N, 2*c.N + 1, 4*c.N - 1, 4 * c.N, 1 << 62, 1<<62 - 1, greatest, greatest - 1} {
			for _, s := range []int{0, 1, c.G, c.N, c.N + 1, -1, least, greatest} {
				checkCharge(t, asked{c, s, a, 0, api.EAlign})
			}
		}
		for a := 1; a <= c.N; a += a {
			for _, s := range []int{-1, -2, -c.N, least, least + 1, c.N + 1, 2 * c.N, 1 << 32, 1 << 62, greatest - 1, greatest} {
				checkCharge(t, asked{c, s, a, 0, api.ESize})
			}
		}
	}
}

// plainCharge says the promise once more, by doubling alone.
func plainCharge(c api.Conf, s, a int) (int, api.Errno) {
	align := false
	for power := 1; power <= c.N; power += power {
		align = align || power == a
	}
	if !align {
		return 0, api.EAlign
	}
	if s < 0 || s > c.N {
		return 0, api.ESize
	}
	power := 1
	for power < s || power < a || power < c.G {
		power += power
	}
	return power, api.OK
}

// P7.1: Charge held against the promise said plainly, of each G and N, round every power of two and at all small numbers; what follows of it holds too.
func TestChargeAsSaidPlainly(t *testing.T) {
	for _, c := range confs(t) {
		values := []int{least, greatest, -1 << 32, 1 << 32}
		for power := 1; power <= 4*c.N; power += power {
			values = append(values, power-1, power, power+1, -power, power+power/2)
		}
		for v := -2; v < 40; v++ {
			values = append(values, v)
		}
		for _, s := range values {
			for _, a := range values {
				want, e := plainCharge(c, s, a)
				checkCharge(t, asked{c, s, a, want, e})
				if e == api.OK {
					follows(t, c, s, a)
				}
			}
		}
	}
}

// P7.1: of some configurations every s and every a, wrong ones too.
func TestChargeOfAll(t *testing.T) {
	for _, c := range []api.Conf{small, single, tiny} {
		for s := -3; s <= 3*c.N; s++ {
			for a := -3; a <= 3*c.N; a++ {
				want, e := plainCharge(c, s, a)
				checkCharge(t, asked{c, s, a, want, e})
			}
		}
	}
}

// What follows: what is charged is at least what is asked for, and below twice it, or G, or the alignment; and it is a class's size.
func follows(t *testing.T, c api.Conf, s, a int) {
	t.Helper()
	charge, _ := Charge(c, s, a)
	if charge < s || charge%a != 0 || charge%c.G != 0 || charge > c.N {
		t.Fatalf("%+v: %d, %d is charged %d", c, s, a, charge)
	}
	if charge >= 2*s && charge != c.G && charge != a {
		t.Fatalf("%+v: %d, %d is charged %d, and that is too much", c, s, a, charge)
	}
	if class, ok := Class(c, charge); !ok || class < 0 || class > c.L {
		t.Fatalf("%+v: %d, %d is charged %d, of class %d %v", c, s, a, charge, class, ok)
	}
}

// P7.1: Class at charges that are a class's size, at their neighbours, below G and above N, worked out by hand; R2: 0 beside a no.
func TestClass(t *testing.T) {
	for class, charge := range []int{4, 8, 16, 32} {
		checkClass(t, small, charge, class, true)
	}
	for _, charge := range []int{0, 1, 2, 3, 5, 6, 7, 9, 12, 15, 17, 20, 24, 31, 33, 48, 63, 64, 65, 128, 1 << 16, 1 << 32, 1 << 62, greatest - 1, greatest, -1, -2, -4, -8, -32, -64, least, least + 1, least + 4, least / 2} {
		checkClass(t, small, charge, 0, false)
	}
	checkClass(t, single, 16, 0, true)
	for _, charge := range []int{0, 1, 8, 15, 17, 24, 31, 32, -16, least, greatest} {
		checkClass(t, single, charge, 0, false)
	}
	checkClass(t, tiny, 1, 0, true)
	for _, charge := range []int{0, 2, 3, 4, -1, least, greatest} {
		checkClass(t, tiny, charge, 0, false)
	}
	checkClass(t, wide, 4096, 12, true)
	checkClass(t, wide, 8192, 0, false)
	checkClass(t, great, 32768, 0, true)
	checkClass(t, great, 65536, 0, false)
	checkClass(t, great, 16384, 0, false)
}

// P7.1: Class of every charge from below 0 to four times N, held against counting up from G.
func TestClassOfAll(t *testing.T) {
	for _, c := range confs(t) {
		next, class := c.G, 0
		for charge := -2 * c.G; charge <= 4*c.N; charge++ {
			if charge == next && charge <= c.N {
				checkClass(t, c, charge, class, true)
				next += next
				class++
				continue
			}
			checkClass(t, c, charge, 0, false)
		}
		if class != c.L+1 {
			t.Errorf("%+v: %d classes", c, class)
		}
	}
}

// P7.1: Class is as conf.Shift has it, also of configurations of nobody.
func TestClassIsShift(t *testing.T) {
	for _, c := range append(wildConfs(), confs(t)...) {
		for _, charge := range append(wild(), c.G, c.N, c.G-1, c.G+1, c.G*2, c.N-1, c.N+1, c.N*2) {
			want, ok := conf.Shift(c, charge)
			checkClass(t, c, charge, want, ok)
		}
	}
}

// P7.1: Product at 0, at 1, at N, and just above it.
func TestProduct(t *testing.T) {
	for _, x := range []asked{
		{small, 0, 0, 0, 0}, {small, 0, 1, 0, 0}, {small, 0, 32, 0, 0}, {small, 0, 33, 0, 0}, {small, 0, greatest, 0, 0}, {small, 1, 1, 1, 0}, {small, 1, 31, 31, 0}, {small, 1, 32, 32, 0}, {small, 2, 16, 32, 0}, {small, 3, 5, 15, 0}, {small, 3, 10, 30, 0}, {small, 4, 8, 32, 0}, {small, 31, 1, 31, 0},
		{small, 1, 33, 0, api.ESize}, {small, 3, 11, 0, api.ESize}, {small, 2, 17, 0, api.ESize}, {small, 5, 7, 0, api.ESize}, {small, 32, 32, 0, api.ESize}, {small, 1, 64, 0, api.ESize}, {small, 1, greatest, 0, api.ESize},
		{single, 1, 16, 16, 0}, {single, 4, 4, 16, 0}, {single, 3, 5, 15, 0}, {single, 1, 17, 0, api.ESize},
		{tiny, 0, 0, 0, 0}, {tiny, 1, 1, 1, 0}, {tiny, 1, 2, 0, api.ESize}, {tiny, 0, 2, 0, 0},
		{wide, 64, 64, 4096, 0}, {wide, 63, 65, 4095, 0}, {wide, 17, 241, 0, api.ESize}, {wide, 2, 2049, 0, api.ESize}, {wide, 1365, 3, 4095, 0}, {wide, 1366, 3, 0, api.ESize},
	} {
		checkProduct(t, x)
		x.a, x.b = x.b, x.a
		checkProduct(t, x)
	}
}

// P7.1: Product with n or s below 0, and with a product that fits into no int, or that would wrap round to what may be; R2: 0 beside an error.
func TestProductRefuses(t *testing.T) {
	for _, x := range []asked{
		{small, -1, 0, 0, api.EArg}, {small, -1, 1, 0, api.EArg}, {small, -1, -1, 0, api.EArg}, {small, -2, -3, 0, api.EArg}, {small, -1, 33, 0, api.EArg}, {small, -1, greatest, 0, api.EArg}, {small, least, 0, 0, api.EArg}, {small, least, 1, 0, api.EArg}, {small, least, 2, 0, api.EArg}, {small, least, greatest, 0, api.EArg}, {small, least, least, 0, api.EArg}, {small, least + 1, -1, 0, api.EArg}, {small, -1 << 32, 1 << 32, 0, api.EArg}, {small, -1 << 32, -1 << 32, 0, api.EArg},
		{small, 1 << 32, 1 << 32, 0, api.ESize}, {small, 1 << 33, 1 << 31, 0, api.ESize}, {small, 1 << 32, 1 << 31, 0, api.ESize}, {small, 1 << 31, 1 << 31, 0, api.ESize}, {small, 1 << 62, 4, 0, api.ESize}, {small, 1 << 62, 2, 0, api.ESize}, {small, 1<<62 + 1, 4, 0, api.ESize}, {small, greatest, 2, 0, api.ESize}, {small, greatest, greatest, 0, api.ESize}, {small, greatest, greatest - 1, 0, api.ESize}, {small, root, root, 0, api.ESize}, {small, root + 1, root + 1, 0, api.ESize}, {small, 1<<32 + 1, 1 << 32, 0, api.ESize}, {small, 1<<63 - 1, 3, 0, api.ESize},
	} {
		checkProduct(t, x)
		x.a, x.b = x.b, x.a
		checkProduct(t, x)
	}
}

// plainProduct goes through whole numbers of any length.
func plainProduct(c api.Conf, n, s int) (int, api.Errno) {
	if n < 0 || s < 0 {
		return 0, api.EArg
	}
	product := new(big.Int).Mul(big.NewInt(int64(n)), big.NewInt(int64(s)))
	if product.Cmp(big.NewInt(int64(c.N))) > 0 {
		return 0, api.ESize
	}
	return int(product.Int64()), api.OK
}

// P7.1: Product held against whole numbers of any length, of each G and N, and of configurations of nobody.
func TestProductAsSaidPlainly(t *testing.T) {
	for _, c := range append(confs(t), api.Conf{}, api.Conf{N: -1}, api.Conf{N: least}, api.Conf{N: greatest}, api.Conf{N: 3}) {
		values := append(wild(), 6, 9, 10, 11, 13, 21, 43, 85, 171, 255, 256, 257)
		values = append(values, c.N, c.N/2, c.N/3, c.N/5, c.N/7)
		for _, n := range values {
			for _, s := range values {
				want, e := plainProduct(c, n, s)
				checkProduct(t, asked{c, n, s, want, e})
			}
		}
	}
}

// P7.1: of no configuration at all no alignment may be, no charge is a class's size, and only nothing is a product.
func TestNoConf(t *testing.T) {
	for _, v := range wild() {
		for _, w := range wild() {
			checkCharge(t, asked{api.Conf{}, v, w, 0, api.EAlign})
			want, e := plainProduct(api.Conf{}, v, w)
			checkProduct(t, asked{api.Conf{}, v, w, want, e})
		}
		checkClass(t, api.Conf{}, v, 0, false)
	}
}

// R1, R2: a c that is none of conf.Of makes no call panic or go on without end, and 0 stands beside an error and a no.
func TestConfsOfNobody(t *testing.T) {
	for _, c := range wildConfs() {
		for _, v := range wild() {
			for _, w := range wild() {
				if charge, e := Charge(c, v, w); e != api.OK && charge != 0 || e == api.OK && (charge < v || charge < w || charge < c.G) {
					t.Fatalf("%+v: Charge(%d, %d): %d %d", c, v, w, charge, e)
				}
				if product, e := Product(c, v, w); e != api.OK && product != 0 {
					t.Fatalf("%+v: Product(%d, %d): %d %d", c, v, w, product, e)
				}
			}
			if class, ok := Class(c, v); !ok && class != 0 {
				t.Fatalf("%+v: Class(%d): %d", c, v, class)
			}
		}
	}
}
