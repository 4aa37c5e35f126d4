package admit

import (
	"math/big"
	"testing"

	"hodman/api"
	"hodman/class"
	"hodman/conf"
)

const (
	greatest = 1<<63 - 1
	least    = -1 << 63
	root     = 3037000499 // the greatest number whose square fits into an int
)

// Some that conf.Of tells: of four classes, of one with G and N the same, the least there is, one of many classes, one of the greatest blocks, one in which the most is live.
var (
	small  = api.Conf{G: 4, N: 32, M: 64, L: 3, Page: 8, P: 9, H: 160}
	single = api.Conf{G: 16, N: 16, M: 32, Page: 16, P: 7, H: 32}
	tiny   = api.Conf{G: 1, N: 1, M: 2, Page: 1, H: 2}
	wide   = api.Conf{G: 1, N: 4096, M: 8192, L: 12, Page: 1, H: 57344}
	great  = api.Conf{G: 32768, N: 32768, M: 65536, Page: 32768, H: 65536}
	full   = api.Conf{G: 1, N: 1, M: 65536, Page: 1, P: 65536, H: 65536}
	named  = []api.Conf{small, single, tiny, wide, great, full}
)

// confs are one of conf.Of for each G and N that it tells, with as little live as may be and with more.
func confs(t *testing.T) []api.Conf {
	t.Helper()
	var out []api.Conf
	for granule := 1; granule <= api.MaxHeap; granule += granule {
		for largest := granule; largest <= api.MaxHeap; largest += largest {
			for _, limit := range []int{1, 5 * largest} {
				if c, e := conf.Of(api.Raw{Granule: granule, Largest: largest, Limit: limit, Page: 1}); e == api.OK {
					out = append(out, c)
				}
			}
		}
	}
	if len(out) < 150 {
		t.Fatalf("only %d of them", len(out))
	}
	return out
}

// numbers are as small and as great as an int can be, those near powers of two, and some near nought.
func numbers() []int {
	out := []int{least, least + 1, least + 2, least + 31, least + 32, least + 33, greatest - 33, greatest - 32, greatest - 31, greatest - 2, greatest - 1, greatest, root, root + 1}
	for _, shift := range []int{5, 6, 16, 31, 32, 33, 61, 62} {
		for more := -1; more <= 1; more++ {
			out = append(out, 1<<shift+more, more-1<<shift)
		}
	}
	for i := -5; i <= 9; i++ {
		out = append(out, i)
	}
	return out
}

// call is what one of the three is asked, and what it tells.
type call struct {
	live, a, b int
	want       int
	wantErr    api.Errno
}

type face func(c api.Conf, live, a, b int) (int, api.Errno)

func check(t *testing.T, c api.Conf, name string, do face, x call) {
	t.Helper()
	if got, e := do(c, x.live, x.a, x.b); got != x.want || e != x.wantErr {
		t.Fatalf("%+v: %s(%d, %d, %d): %d %d, not %d %d", c, name, x.live, x.a, x.b, got, e, x.want, x.wantErr)
	}
}

func checkNews(t *testing.T, c api.Conf, l []call) {
	t.Helper()
	for _, x := range l {
		check(t, c, "New", New, x)
	}
}

func checkManys(t *testing.T, c api.Conf, l []call) {
	t.Helper()
	for _, x := range l {
		check(t, c, "Many", Many, x)
		x.a, x.b = x.b, x.a
		check(t, c, "Many", Many, x)
	}
}

func checkAnews(t *testing.T, c api.Conf, l []call) {
	t.Helper()
	for _, x := range l {
		check(t, c, "Anew", Anew, x)
	}
}

// The tables below hold of what conf.Of tells.
func TestConfsOfTables(t *testing.T) {
	for _, c := range named {
		if got, e := conf.Of(api.Raw{Granule: c.G, Largest: c.N, Limit: c.M, Page: c.Page, Budget: c.P, Seed: c.Seed}); got != c || e != api.OK {
			t.Errorf("%+v: %+v %d", c, got, e)
		}
	}
}

// P16.1: the chapter's example: New of 1 of a full heap, of each there is.
func TestExample(t *testing.T) {
	for _, c := range append(confs(t), named...) {
		checkNews(t, c, []call{{c.M, 1, 1, 0, api.ELimit}, {c.M - c.G, 1, 1, c.G, 0}, {c.M - c.G + 1, 1, 1, 0, api.ELimit}})
	}
}

// P16.1: New of s of 0, of 1, of G, of N, one above each and one below, with nothing live.
func TestNewOfSizes(t *testing.T) {
	checkNews(t, small, []call{{0, 0, 1, 4, 0}, {0, 1, 1, 4, 0}, {0, 2, 1, 4, 0}, {0, 3, 1, 4, 0}, {0, 4, 1, 4, 0}, {0, 5, 1, 8, 0}, {0, 8, 1, 8, 0}, {0, 9, 1, 16, 0}, {0, 17, 1, 32, 0}, {0, 31, 1, 32, 0}, {0, 32, 1, 32, 0}, {0, 33, 1, 0, api.ESize}})
	checkNews(t, single, []call{{0, 0, 1, 16, 0}, {0, 1, 1, 16, 0}, {0, 15, 1, 16, 0}, {0, 16, 1, 16, 0}, {0, 17, 1, 0, api.ESize}})
	checkNews(t, tiny, []call{{0, 0, 1, 1, 0}, {0, 1, 1, 1, 0}, {0, 2, 1, 0, api.ESize}})
	checkNews(t, wide, []call{{0, 0, 1, 1, 0}, {0, 1, 1, 1, 0}, {0, 2, 1, 2, 0}, {0, 3, 1, 4, 0}, {0, 2049, 1, 4096, 0}, {0, 4096, 1, 4096, 0}, {0, 4097, 1, 0, api.ESize}})
	checkNews(t, great, []call{{0, 0, 1, 32768, 0}, {0, 32768, 1, 32768, 0}, {0, 32769, 1, 0, api.ESize}})
}

// P16.1: New where what is live and what is charged are just M, one below, one above; of all that is live, and of more than may be.
func TestNewAtLimit(t *testing.T) {
	checkNews(t, small, []call{
		{59, 1, 1, 4, 0}, {60, 1, 1, 4, 0}, {61, 1, 1, 0, api.ELimit}, {60, 0, 1, 4, 0}, {61, 0, 1, 0, api.ELimit}, {60, 4, 1, 4, 0}, {60, 5, 1, 0, api.ELimit},
		{55, 5, 1, 8, 0}, {56, 5, 1, 8, 0}, {57, 5, 1, 0, api.ELimit}, {56, 8, 1, 8, 0}, {56, 9, 1, 0, api.ELimit},
		{47, 9, 1, 16, 0}, {48, 9, 1, 16, 0}, {49, 9, 1, 0, api.ELimit}, {48, 17, 1, 0, api.ELimit},
		{31, 32, 1, 32, 0}, {32, 32, 1, 32, 0}, {33, 32, 1, 0, api.ELimit}, {32, 17, 1, 32, 0}, {33, 17, 1, 0, api.ELimit},
		{62, 0, 1, 0, api.ELimit}, {63, 0, 1, 0, api.ELimit}, {64, 0, 1, 0, api.ELimit}, {64, 1, 1, 0, api.ELimit}, {64, 32, 1, 0, api.ELimit}, {65, 1, 1, 0, api.ELimit}, {96, 1, 1, 0, api.ELimit},
	})
	checkNews(t, single, []call{{15, 1, 1, 16, 0}, {16, 1, 1, 16, 0}, {17, 1, 1, 0, api.ELimit}, {32, 16, 1, 0, api.ELimit}})
	checkNews(t, tiny, []call{{0, 1, 1, 1, 0}, {1, 1, 1, 1, 0}, {1, 0, 1, 1, 0}, {2, 1, 1, 0, api.ELimit}, {2, 0, 1, 0, api.ELimit}, {3, 0, 1, 0, api.ELimit}})
	checkNews(t, wide, []call{{4095, 4096, 1, 4096, 0}, {4096, 4096, 1, 4096, 0}, {4097, 4096, 1, 0, api.ELimit}, {8191, 1, 1, 1, 0}, {8191, 2, 1, 0, api.ELimit}, {8192, 0, 1, 0, api.ELimit}})
	checkNews(t, great, []call{{32767, 1, 1, 32768, 0}, {32768, 1, 1, 32768, 0}, {32769, 1, 1, 0, api.ELimit}, {65535, 0, 1, 0, api.ELimit}, {65536, 0, 1, 0, api.ELimit}})
	checkNews(t, full, []call{{65534, 1, 1, 1, 0}, {65535, 1, 1, 1, 0}, {65536, 1, 1, 0, api.ELimit}, {65537, 1, 1, 0, api.ELimit}})
}

// P16.1: New with an alignment of 1, of N, below, at and above what s comes to.
func TestNewOfAlignments(t *testing.T) {
	checkNews(t, small, []call{
		{0, 1, 2, 4, 0}, {0, 1, 4, 4, 0}, {0, 1, 8, 8, 0}, {0, 1, 16, 16, 0}, {0, 1, 32, 32, 0}, {0, 0, 32, 32, 0}, {0, 32, 32, 32, 0}, {0, 0, 16, 16, 0}, {0, 5, 2, 8, 0}, {0, 5, 8, 8, 0}, {0, 5, 16, 16, 0},
		{60, 1, 4, 4, 0}, {56, 1, 8, 8, 0}, {57, 1, 8, 0, api.ELimit}, {60, 1, 8, 0, api.ELimit}, {48, 5, 16, 16, 0}, {49, 5, 16, 0, api.ELimit}, {32, 1, 32, 32, 0}, {33, 1, 32, 0, api.ELimit}, {32, 0, 32, 32, 0}, {33, 0, 32, 0, api.ELimit}, {64, 0, 32, 0, api.ELimit},
		{0, 1, 64, 0, api.EAlign}, {0, 33, 32, 0, api.ESize},
	})
	checkNews(t, single, []call{{16, 1, 8, 16, 0}, {16, 0, 16, 16, 0}, {17, 1, 16, 0, api.ELimit}, {0, 1, 32, 0, api.EAlign}})
	checkNews(t, wide, []call{{8191, 1, 1, 1, 0}, {8191, 1, 2, 0, api.ELimit}, {8190, 1, 2, 2, 0}, {4096, 0, 4096, 4096, 0}, {4097, 0, 4096, 0, api.ELimit}, {0, 0, 8192, 0, api.EAlign}})
}

// P16.1: a wrong alignment is told ahead of a wrong s, and that ahead of ELimit; R2: 0 beside each.
func TestNewRefusesInOrder(t *testing.T) {
	for _, c := range named {
		lives := []int{0, 1, c.M - 1, c.M, c.M + 1, -1, least, greatest}
		for _, live := range lives {
			for _, a := range []int{0, -1, -2, -c.N, least, least + 1, least / 2, 3, 5, 6, 7, c.N + 1, 2 * c.N, 2*c.N + 1, 1 << 32, 1 << 62, greatest} {
				for _, s := range []int{0, 1, c.N, c.N + 1, -1, least, greatest} {
					checkNews(t, c, []call{{live, s, a, 0, api.EAlign}})
				}
			}
			for a := 1; a <= c.N; a += a {
				for _, s := range []int{-1, -2, -c.N, least, least + 1, c.N + 1, 2 * c.N, 1 << 32, 1 << 62, greatest - 1, greatest} {
					checkNews(t, c, []call{{live, s, a, 0, api.ESize}})
				}
			}
		}
	}
}

// P16.1: Many of none, of one, of 0 bytes, of a product of just N, one above and one below, where there is room and where there is none.
func TestMany(t *testing.T) {
	checkManys(t, small, []call{
		{0, 0, 0, 4, 0}, {0, 0, 1, 4, 0}, {0, 0, 33, 4, 0}, {0, 0, greatest, 4, 0}, {60, 0, 33, 4, 0}, {61, 0, 33, 0, api.ELimit}, {64, 0, greatest, 0, api.ELimit},
		{0, 1, 1, 4, 0}, {0, 1, 4, 4, 0}, {0, 1, 5, 8, 0}, {0, 1, 32, 32, 0}, {0, 1, 33, 0, api.ESize}, {60, 1, 1, 4, 0}, {61, 1, 1, 0, api.ELimit}, {64, 1, 1, 0, api.ELimit},
		{0, 2, 2, 4, 0}, {0, 3, 5, 16, 0}, {48, 3, 5, 16, 0}, {49, 3, 5, 0, api.ELimit}, {0, 2, 16, 32, 0}, {0, 4, 8, 32, 0}, {32, 4, 8, 32, 0}, {33, 4, 8, 0, api.ELimit}, {64, 4, 8, 0, api.ELimit}, {32, 31, 1, 32, 0}, {33, 31, 1, 0, api.ELimit},
		{0, 3, 11, 0, api.ESize}, {0, 2, 17, 0, api.ESize}, {0, 32, 32, 0, api.ESize}, {0, 1, greatest, 0, api.ESize},
	})
	checkManys(t, wide, []call{{0, 64, 64, 4096, 0}, {4096, 64, 64, 4096, 0}, {4097, 64, 64, 0, api.ELimit}, {0, 63, 65, 4096, 0}, {0, 17, 241, 0, api.ESize}, {8191, 1, 1, 1, 0}, {8191, 1, 2, 0, api.ELimit}, {8190, 1, 2, 2, 0}, {8191, 0, 5, 1, 0}, {8192, 0, 5, 0, api.ELimit}})
	checkManys(t, tiny, []call{{1, 1, 1, 1, 0}, {2, 1, 1, 0, api.ELimit}, {1, 0, 9, 1, 0}, {2, 0, 9, 0, api.ELimit}, {0, 1, 2, 0, api.ESize}})
	checkManys(t, great, []call{{32768, 2, 16384, 32768, 0}, {32769, 2, 16384, 0, api.ELimit}, {0, 2, 16385, 0, api.ESize}})
}

// P16.1: Many tells an n or s below 0 ahead of a product that is too great, and that, also where it runs over, ahead of ELimit; R2: 0 beside each.
func TestManyRefusesInOrder(t *testing.T) {
	for _, c := range named {
		for _, live := range []int{0, 1, c.M - 1, c.M, c.M + 1, -1, least, greatest} {
			for _, n := range []int{-1, -2, -c.N, -1 << 32, least / 2, least + 1, least} {
				for _, s := range []int{0, 1, c.N, c.N + 1, greatest, -1, -3, -1 << 32, least} {
					checkManys(t, c, []call{{live, n, s, 0, api.EArg}})
				}
			}
			checkManys(t, c, []call{{live, 1, c.N + 1, 0, api.ESize}, {live, 2, c.N, 0, api.ESize}, {live, c.N + 1, c.N + 1, 0, api.ESize}, {live, 1, greatest, 0, api.ESize}, {live, 2, greatest, 0, api.ESize}, {live, greatest, greatest, 0, api.ESize}})
			// Wrapped round, these would be 0, 1, or below 0.
			checkManys(t, c, []call{{live, 1 << 32, 1 << 32, 0, api.ESize}, {live, 1 << 62, 4, 0, api.ESize}, {live, 1 << 62, 2, 0, api.ESize}, {live, 1<<62 + 1, 4, 0, api.ESize}, {live, root + 1, root + 1, 0, api.ESize}, {live, greatest, greatest, 0, api.ESize}})
		}
	}
}

// P16.1: Many is as New of the product and 1.
func TestManyIsNew(t *testing.T) {
	for _, c := range append(confs(t), named...) {
		for _, n := range []int{0, 1, 2, 3, 5, 7, 16, 63, 64, 65} {
			for _, s := range []int{0, 1, 2, 3, c.G, c.G + 1, c.N / 7, c.N / 5, c.N / 3, c.N / 2, c.N, c.N + 1} {
				for _, live := range []int{0, 1, c.M / 2, c.M/2 + 1, c.M - c.N, c.M - c.N + 1, c.M - c.G, c.M - c.G + 1, c.M} {
					want, e := New(c, live, n*s, 1)
					checkManys(t, c, []call{{live, n, s, want, e}})
				}
			}
		}
	}
}

// P16.1: Anew of less than there was, of the same charge, of more by one class and by many, where just that much is left and where it is not, and of all that is live.
func TestAnew(t *testing.T) {
	checkAnews(t, small, []call{
		{64, 32, 16, 16, 0}, {64, 32, 5, 8, 0}, {64, 32, 1, 4, 0}, {64, 32, 0, 4, 0}, {64, 8, 4, 4, 0}, {33, 32, 1, 4, 0},
		{64, 32, 32, 32, 0}, {64, 32, 17, 32, 0}, {64, 4, 4, 4, 0}, {64, 4, 0, 4, 0}, {64, 8, 5, 8, 0}, {64, 8, 8, 8, 0},
		{60, 4, 5, 8, 0}, {60, 4, 8, 8, 0}, {61, 4, 5, 0, api.ELimit}, {64, 4, 5, 0, api.ELimit}, {59, 4, 5, 8, 0}, {60, 4, 9, 0, api.ELimit},
		{56, 8, 9, 16, 0}, {57, 8, 9, 0, api.ELimit}, {48, 16, 17, 32, 0}, {49, 16, 17, 0, api.ELimit}, {64, 16, 17, 0, api.ELimit},
		{36, 4, 32, 32, 0}, {37, 4, 32, 0, api.ELimit}, {35, 4, 17, 32, 0},
		{4, 4, 1, 4, 0}, {4, 4, 32, 32, 0}, {32, 32, 32, 32, 0}, {32, 32, 1, 4, 0}, {64, 64, 32, 32, 0}, {64, 64, 0, 4, 0}, {0, 0, 32, 32, 0},
		{64, 0, 0, 0, api.ELimit}, {60, 0, 1, 4, 0}, {61, 0, 1, 0, api.ELimit},
		{10, 4, 33, 0, api.ESize}, {64, 4, 33, 0, api.ESize}, {64, 4, -1, 0, api.ESize},
	})
	checkAnews(t, single, []call{{32, 16, 0, 16, 0}, {32, 16, 16, 16, 0}, {32, 16, 17, 0, api.ESize}, {33, 16, 16, 0, api.ELimit}, {16, 16, 1, 16, 0}})
	checkAnews(t, tiny, []call{{2, 1, 1, 1, 0}, {2, 1, 0, 1, 0}, {3, 1, 1, 0, api.ELimit}, {2, 1, 2, 0, api.ESize}, {1, 1, 1, 1, 0}})
	checkAnews(t, wide, []call{{8192, 4096, 4096, 4096, 0}, {8192, 1, 1, 1, 0}, {8192, 1, 2, 0, api.ELimit}, {8191, 1, 2, 2, 0}, {4097, 1, 4096, 4096, 0}, {4098, 1, 4096, 0, api.ELimit}, {6144, 2048, 2049, 4096, 0}, {6145, 2048, 2049, 0, api.ELimit}})
	checkAnews(t, great, []call{{65536, 32768, 0, 32768, 0}, {65536, 32768, 32768, 32768, 0}, {65537, 32768, 1, 0, api.ELimit}})
	checkAnews(t, full, []call{{65536, 1, 1, 1, 0}, {65537, 1, 1, 0, api.ELimit}, {65536, 1, 2, 0, api.ESize}})
}

// P16.1: Anew tells a wrong s ahead of ELimit, whatever is live and was; R2: 0 beside it.
func TestAnewRefusesInOrder(t *testing.T) {
	for _, c := range named {
		for _, live := range []int{0, c.G, c.M, c.M + 1, -1, least, greatest} {
			for _, old := range []int{0, c.G, c.N, c.M, c.M + 1, -1, least, greatest} {
				for _, s := range []int{-1, -2, -c.N, least, least + 1, c.N + 1, 2 * c.N, 1 << 32, 1 << 62, greatest - 1, greatest} {
					checkAnews(t, c, []call{{live, old, s, 0, api.ESize}})
				}
			}
		}
	}
}

// P16.1: Anew is as New of live less old, s and 1, also where less is live than was.
func TestAnewIsNew(t *testing.T) {
	for _, c := range append(confs(t), named...) {
		for _, live := range []int{-1, 0, 1, c.G, c.N, c.M / 2, c.M - c.G, c.M - 1, c.M, c.M + 1, c.M + c.N, c.M + c.N + 1, 2*c.M + 1} {
			for old := c.G; old <= 2*c.N; old += old {
				for _, s := range []int{-1, 0, 1, c.G, c.G + 1, old / 2, old, old + 1, 2 * old, c.N, c.N + 1} {
					want, e := New(c, live-old, s, 1)
					checkAnews(t, c, []call{{live, old, s, want, e}})
				}
			}
		}
	}
}

// plainCharge says once more, by doubling alone, what class.Charge says.
func plainCharge(c api.Conf, s, a int) (int, api.Errno) {
	align := false
	for power := 1; power <= c.N; power += power {
		align = align || power == a
	}
	if !align {
		return 0, api.EAlign
	}
	if s < 0 || s > c.N {
		return 0, api.ESize
	}
	power := 1
	for power < s || power < a || power < c.G {
		power += power
	}
	return power, api.OK
}

// plainLimit says what is told of a charge, going through whole numbers of any length.
func plainLimit(c api.Conf, live, old, charge int, e api.Errno) (int, api.Errno) {
	if e != api.OK {
		return 0, e
	}
	sum := big.NewInt(int64(live))
	sum.Sub(sum, big.NewInt(int64(old)))
	sum.Add(sum, big.NewInt(int64(charge)))
	if sum.Cmp(big.NewInt(int64(c.M))) > 0 {
		return 0, api.ELimit
	}
	return charge, api.OK
}

// checkPlain holds all three, at those numbers, against the promise said plainly.
func checkPlain(t *testing.T, c api.Conf, live, a, b int) {
	t.Helper()
	charge, e := plainCharge(c, a, b)
	want, e := plainLimit(c, live, 0, charge, e)
	check(t, c, "New", New, call{live, a, b, want, e})

	charge, e = plainCharge(c, b, 1)
	want, e = plainLimit(c, live, a, charge, e)
	check(t, c, "Anew", Anew, call{live, a, b, want, e})

	product := new(big.Int).Mul(big.NewInt(int64(a)), big.NewInt(int64(b)))
	switch {
	case a < 0 || b < 0:
		want, e = 0, api.EArg
	case product.Cmp(big.NewInt(int64(c.N))) > 0:
		want, e = 0, api.ESize
	default:
		charge, e = plainCharge(c, int(product.Int64()), 1)
		want, e = plainLimit(c, live, 0, charge, e)
	}
	check(t, c, "Many", Many, call{live, a, b, want, e})
}

// P16.1: all small numbers, wrong ones too, of some small configurations, held against the promise said plainly.
func TestAsSaidPlainlyOfAll(t *testing.T) {
	for _, c := range []api.Conf{small, single, tiny, {G: 2, N: 8, M: 48, L: 2, Page: 8, P: 3, H: 96}} {
		for live := -c.N - 2; live <= c.M+c.N+2; live++ {
			for a := -2; a <= 2*c.N+2; a++ {
				for b := -2; b <= 2*c.N+2; b++ {
					checkPlain(t, c, live, a, b)
				}
			}
		}
	}
}

// P16.1: numbers as great and as small as an int can be, whose sum or difference runs over, and those whose halves carry: what is told is what the sum itself comes to.
func TestAsSaidPlainlyOfGreatNumbers(t *testing.T) {
	for _, c := range named {
		values := append(numbers(), c.M-1, c.M, c.M+1, c.M-c.N, c.N, c.N+1)
		for _, live := range values {
			for _, a := range values {
				for _, b := range values {
					checkPlain(t, c, live, a, b)
				}
			}
		}
	}
}

// P16.1: some of the sums that run over, worked out by hand.
func TestSumsThatRunOver(t *testing.T) {
	checkNews(t, small, []call{{greatest, 1, 1, 0, api.ELimit}, {greatest - 3, 1, 1, 0, api.ELimit}, {greatest - 4, 1, 1, 0, api.ELimit}, {greatest - 31, 32, 32, 0, api.ELimit}, {least, 1, 1, 4, 0}, {least, 32, 32, 32, 0}, {-1, 32, 1, 32, 0}, {1 << 32, 1, 1, 0, api.ELimit}, {-1 << 32, 1, 1, 4, 0}})
	checkManys(t, small, []call{{greatest, 3, 5, 0, api.ELimit}, {greatest, 0, 0, 0, api.ELimit}, {least, 3, 5, 16, 0}, {least, 0, 0, 4, 0}})
	checkAnews(t, small, []call{
		{least, greatest, 1, 4, 0}, {least, 1, 32, 32, 0}, {-2, greatest, 1, 4, 0}, {0, greatest, 1, 4, 0},
		{greatest, least, 1, 0, api.ELimit}, {greatest, -1, 1, 0, api.ELimit}, {0, least, 1, 0, api.ELimit}, {-1, least, 1, 0, api.ELimit}, {-2, least, 1, 0, api.ELimit},
		{greatest, greatest, 32, 32, 0}, {greatest, greatest - 60, 4, 4, 0}, {greatest, greatest - 61, 4, 0, api.ELimit}, {greatest, greatest - 60, 5, 0, api.ELimit},
		{least, least, 32, 32, 0}, {least + 60, least, 4, 4, 0}, {least + 61, least, 4, 0, api.ELimit},
		{1 << 32, 1<<32 - 60, 1, 4, 0}, {1 << 32, 1<<32 - 61, 1, 0, api.ELimit}, {1<<32 + 30, 1<<32 - 30, 1, 4, 0}, {1<<32 + 30, 1<<32 - 31, 1, 0, api.ELimit}, {30, -30, 1, 4, 0}, {30, -31, 1, 0, api.ELimit}, {-1, -61, 1, 4, 0}, {-1, -62, 1, 0, api.ELimit},
	})
}

// What follows: whether a call is let in hangs on sums alone, not on pages, on what stands in them, or on how high all goes.
func TestHangsOnSumsAlone(t *testing.T) {
	for _, c := range named {
		other := c
		other.P, other.Seed, other.Page, other.H, other.L = 0, 255, 1<<15, 1<<16, 0
		for live := -1; live <= c.M+1; live += 1 + c.M/64 {
			for _, s := range []int{-1, 0, 1, c.G, c.N / 2, c.N, c.N + 1} {
				want, e := New(c, live, s, 1)
				checkNews(t, other, []call{{live, s, 1, want, e}})
				want, e = Many(c, live, 2, s)
				checkManys(t, other, []call{{live, 2, s, want, e}})
				want, e = Anew(c, live, c.G, s)
				checkAnews(t, other, []call{{live, c.G, s, want, e}})
			}
		}
	}
}

// What follows: of each charge just as many are let in, one behind the other, as M has room for; what is live grows to M, and no higher.
func TestLetsInUntilFull(t *testing.T) {
	for _, c := range append(confs(t), named...) {
		for charge := c.G; charge <= c.N; charge += charge {
			live, count := 0, 0
			for {
				more, e := New(c, live, charge, 1)
				if e == api.ELimit {
					break
				}
				if more != charge || e != api.OK || live >= c.M {
					t.Fatalf("%+v: New(%d, %d, 1): %d %d", c, live, charge, more, e)
				}
				live += more
				count++
			}
			if live != c.M || count != c.M/charge {
				t.Fatalf("%+v: %d of %d were let in", c, count, charge)
			}
		}
	}
}

// wildConfs are configurations that conf.Of does not tell, with G, N and M at odds.
func wildConfs() []api.Conf {
	var out []api.Conf
	for _, g := range []int{least, -1, 0, 1, 3, 4, 65, 1<<62 + 1, greatest} {
		for _, n := range []int{least, -1, 0, 1, 3, 64, 1 << 62, greatest} {
			for _, m := range []int{least, least + 3, -1 << 62, -1 << 32, -1, 0, 1, 64, 1 << 32, greatest - 1, greatest} {
				out = append(out, api.Conf{G: g, N: n, M: m, L: 5, Page: g, P: m, H: n})
			}
		}
	}
	return append(out, api.Conf{})
}

// R1, R2: a c that is none of conf.Of makes no call panic or go on without end; 0 stands beside each error, and what is let in is what the sum itself comes to.
func TestConfsOfNobody(t *testing.T) {
	values := []int{least, least + 1, least + 4, -1 << 62, -1 << 32, -1, 0, 1, 2, 3, 4, 64, 65, 1 << 32, 1 << 62, greatest - 4, greatest - 1, greatest}
	for _, c := range wildConfs() {
		for _, live := range values {
			for _, a := range values {
				for _, b := range values {
					charge, e := class.Charge(c, a, b)
					want, e := plainLimit(c, live, 0, charge, e)
					check(t, c, "New", New, call{live, a, b, want, e})

					charge, e = class.Charge(c, b, 1)
					want, e = plainLimit(c, live, a, charge, e)
					check(t, c, "Anew", Anew, call{live, a, b, want, e})

					product, e := class.Product(c, a, b)
					if e == api.OK {
						charge, e = class.Charge(c, product, 1)
					}
					want, e = plainLimit(c, live, 0, charge, e)
					check(t, c, "Many", Many, call{live, a, b, want, e})
				}
			}
		}
	}
}
