package pin

import (
	"slices"
	"testing"

	"hodman/api"
)

const (
	greatest = 1<<63 - 1
	least    = -1 << 63
	far      = 1099511627776 // 2^40, and
	heap     = 65536         // MaxHeap, written out, so that the package's own numbers are held against them
)

// ask is what Pages is asked, and what it tells.
type ask struct{ page, at, n, first, behind int }

func checkAsks(t *testing.T, l []ask) {
	t.Helper()
	for _, x := range l {
		if first, behind := Pages(x.page, x.at, x.n); first != x.first || behind != x.behind {
			t.Errorf("Pages(%d, %d, %d): %d, %d", x.page, x.at, x.n, first, behind)
		}
	}
}

// P12.1: the chapter's example.
func TestExample(t *testing.T) {
	checkAsks(t, []ask{{4, 3, 2, 0, 2}})
}

// P12.1: Pages of bytes that begin and end at a page's edge, one ahead of it and one behind, where the page is a power of two and where it is none.
func TestPagesAtEdges(t *testing.T) {
	checkAsks(t, []ask{
		{8, 0, 1, 0, 1}, {8, 0, 7, 0, 1}, {8, 0, 8, 0, 1}, {8, 0, 9, 0, 2}, {8, 0, 15, 0, 2}, {8, 0, 16, 0, 2}, {8, 0, 17, 0, 3},
		{8, 7, 1, 0, 1}, {8, 7, 2, 0, 2}, {8, 7, 8, 0, 2}, {8, 7, 9, 0, 2}, {8, 7, 10, 0, 3},
		{8, 8, 1, 1, 2}, {8, 8, 7, 1, 2}, {8, 8, 8, 1, 2}, {8, 8, 9, 1, 3}, {8, 8, 16, 1, 3}, {8, 8, 17, 1, 4},
		{8, 9, 1, 1, 2}, {8, 9, 6, 1, 2}, {8, 9, 7, 1, 2}, {8, 9, 8, 1, 3}, {8, 9, 15, 1, 3}, {8, 9, 16, 1, 4},
		{8, 800, 80, 100, 110}, {8, 799, 80, 99, 110}, {8, 801, 80, 100, 111}, {8, 800, 79, 100, 110}, {8, 800, 81, 100, 111},
		{6, 0, 1, 0, 1}, {6, 0, 5, 0, 1}, {6, 0, 6, 0, 1}, {6, 0, 7, 0, 2}, {6, 0, 11, 0, 2}, {6, 0, 12, 0, 2}, {6, 0, 13, 0, 3},
		{6, 5, 1, 0, 1}, {6, 5, 2, 0, 2}, {6, 5, 7, 0, 2}, {6, 5, 8, 0, 3},
		{6, 6, 1, 1, 2}, {6, 6, 5, 1, 2}, {6, 6, 6, 1, 2}, {6, 6, 7, 1, 3},
		{6, 7, 1, 1, 2}, {6, 7, 4, 1, 2}, {6, 7, 5, 1, 2}, {6, 7, 6, 1, 3},
		{6, 600, 60, 100, 110}, {6, 599, 60, 99, 110}, {6, 601, 60, 100, 111}, {6, 600, 59, 100, 110}, {6, 600, 61, 100, 111},
		{2, 5, 3, 2, 4}, {3, 5, 3, 1, 3}, {3, 5, 1, 1, 2}, {5, 4, 1, 0, 1}, {5, 5, 1, 1, 2}, {7, 20, 2, 2, 4}, {12, 13, 10, 1, 2}, {12, 13, 11, 1, 2}, {12, 13, 12, 1, 3}, {100, 99, 2, 0, 2}, {1000, 12345, 6789, 12, 20},
		{4096, 4095, 2, 0, 2}, {4096, 4096, 4096, 1, 2}, {65536, 65535, 1, 0, 1}, {65536, 65535, 2, 0, 2}, {65536, 65536, 1, 1, 2}, {65535, 65535, 1, 1, 2}, {65535, 65534, 1, 0, 1}, {65537, 65536, 1, 0, 1}, {65537, 65537, 1, 1, 2},
	})
}

// P12.1: Pages at page 1 and 2^40, and near it, at at and n 0 and 2^40.
func TestPagesAtLimits(t *testing.T) {
	checkAsks(t, []ask{
		{1, 0, 0, 0, 0}, {1, 0, 1, 0, 1}, {1, 1, 1, 1, 2}, {1, 5, 3, 5, 8}, {1, 0, far, 0, far}, {1, far, 0, far, far}, {1, far, 1, far, far + 1}, {1, far, far, far, 2 * far}, {1, far - 1, far - 1, far - 1, 2*far - 2}, {1, 7, far, 7, far + 7},
		{2, 0, far, 0, far / 2}, {2, 1, far, 0, far/2 + 1}, {2, far, far, far / 2, far}, {2, far - 1, far, far/2 - 1, far}, {2, far, 1, far / 2, far/2 + 1}, {2, far, 0, far / 2, far / 2},
		{3, 0, far, 0, 366503875926}, {3, far, far, 366503875925, 733007751851}, {3, far, 1, 366503875925, 366503875926}, {3, far, 0, 366503875925, 366503875925},
		{far, 0, 0, 0, 0}, {far, 0, 1, 0, 1}, {far, 0, far - 1, 0, 1}, {far, 0, far, 0, 1}, {far, 1, far - 1, 0, 1}, {far, 1, far, 0, 2}, {far, far - 1, 0, 0, 0}, {far, far - 1, 1, 0, 1}, {far, far - 1, 2, 0, 2}, {far, far - 1, far, 0, 2}, {far, far, 0, 1, 1}, {far, far, 1, 1, 2}, {far, far, far, 1, 2},
		{far - 1, 0, far - 1, 0, 1}, {far - 1, 0, far, 0, 2}, {far - 1, far - 2, 1, 0, 1}, {far - 1, far - 2, 2, 0, 2}, {far - 1, far - 1, 0, 1, 1}, {far - 1, far - 1, far - 1, 1, 2}, {far - 1, far - 1, far, 1, 3}, {far - 1, far, far, 1, 3}, {far - 1, far, 0, 1, 1},
		{far / 2, far, 0, 2, 2}, {far / 2, far, far, 2, 4}, {far / 2, far - 1, far, 1, 4}, {far / 2, far - 1, 1, 1, 2}, {far / 2, 0, far, 0, 2},
	})
}

// P12.1: of no bytes the page that at lies in is told twice.
func TestPagesOfNoBytes(t *testing.T) {
	checkAsks(t, []ask{
		{4, 0, 0, 0, 0}, {4, 1, 0, 0, 0}, {4, 3, 0, 0, 0}, {4, 4, 0, 1, 1}, {4, 5, 0, 1, 1}, {4, 7, 0, 1, 1}, {4, 8, 0, 2, 2}, {4, 400, 0, 100, 100}, {4, 399, 0, 99, 99},
		{5, 0, 0, 0, 0}, {5, 4, 0, 0, 0}, {5, 5, 0, 1, 1}, {5, 6, 0, 1, 1}, {5, 9, 0, 1, 1}, {5, 10, 0, 2, 2}, {1, 1, 0, 1, 1}, {1, 77, 0, 77, 77},
	})
}

// P12.1: where one of the three is below, or two, or all, 0, 0 is told.
func TestPagesBelow(t *testing.T) {
	checkAsks(t, []ask{
		{0, 5, 5, 0, 0}, {-1, 5, 5, 0, 0}, {-4, 5, 5, 0, 0}, {-4, 5, 0, 0, 0}, {0, 5, 0, 0, 0}, {0, 0, 0, 0, 0}, {least, 5, 5, 0, 0}, {least + 1, 5, 5, 0, 0}, {-far, far, far, 0, 0}, {-greatest, far, far, 0, 0},
		{4, -1, 5, 0, 0}, {4, -1, 0, 0, 0}, {4, -4, 9, 0, 0}, {4, -5, 50, 0, 0}, {1, -1, 1, 0, 0}, {1, -1, 2, 0, 0}, {4, least, 5, 0, 0}, {4, least + 1, 5, 0, 0}, {1, least, 1, 0, 0}, {5, -6, 50, 0, 0}, {4, least, greatest, 0, 0},
		{4, 5, -1, 0, 0}, {4, 50, -1, 0, 0}, {4, 50, -40, 0, 0}, {4, 50, -50, 0, 0}, {1, 50, -1, 0, 0}, {5, 50, -4, 0, 0}, {4, 50, least, 0, 0}, {4, 50, least + 1, 0, 0}, {4, far, -far, 0, 0}, {1, far, -1, 0, 0},
		{0, -1, 5, 0, 0}, {0, 5, -1, 0, 0}, {4, -1, -1, 0, 0}, {-1, -1, -1, 0, 0}, {least, least, least, 0, 0}, {0, -1, -1, 0, 0}, {-4, -5, 5, 0, 0}, {4, -50, -1, 0, 0},
	})
}

// shares tells if one of n bytes from at on is one of page from the begin-th on, each tried.
func shares(page, begin, at, n int) bool {
	for i := at; i < at+n; i++ {
		if begin <= i && i < begin+page {
			return true
		}
	}
	return false
}

// P12.1: of all small numbers Pages tells the pages, one behind another, that share a byte with those that are asked for.
func TestPagesAsSaidPlainly(t *testing.T) {
	for page := 1; page <= 9; page++ {
		for at := range 30 {
			for n := 1; n <= 30; n++ {
				first, behind := Pages(page, at, n)
				for i := range 62 {
					if lies := shares(page, i*page, at, n); lies != (first <= i && i < behind) {
						t.Fatalf("Pages(%d, %d, %d): %d, %d", page, at, n, first, behind)
					}
				}
			}
		}
	}
}

// within are numbers that Pages may be asked, at the edges and between.
func within() []int {
	var out []int
	for _, x := range []int{0, 3, 64, 100, 4096, 65536, 1 << 20, 1000000007, 1 << 31, 1 << 32, far / 3, far / 2, far} {
		for _, y := range []int{x - 2, x - 1, x, x + 1, x + 2} {
			if y >= 0 && y <= far {
				out = append(out, y)
			}
		}
	}
	return out
}

// P12.1: of great numbers the first byte lies in the first page, and the last one in the page ahead of behind, held against products alone; of no bytes the first page is told twice.
func TestPagesOfGreatNumbers(t *testing.T) {
	numbers := within()
	for _, page := range numbers {
		if page == 0 {
			continue
		}
		for _, at := range numbers {
			for _, n := range numbers {
				first, behind := Pages(page, at, n)
				if first*page > at || first*page+page <= at {
					t.Fatalf("Pages(%d, %d, %d): %d, %d", page, at, n, first, behind)
				}
				if n == 0 && behind != first {
					t.Fatalf("Pages(%d, %d, %d): %d, %d", page, at, n, first, behind)
				}
				if end := at + n; n > 0 && (behind*page < end || behind*page-page >= end) {
					t.Fatalf("Pages(%d, %d, %d): %d, %d", page, at, n, first, behind)
				}
			}
		}
	}
}

// P12.1: what follows: what is within a page meets one, whichever way it is asked.
func TestWithinAPageMeetsOne(t *testing.T) {
	for _, page := range []int{1, 2, 3, 4, 5, 7, 8, 16, 24, 31} {
		for begin := 0; begin < 5*page; begin += page {
			for at := begin; at < begin+page; at++ {
				for n := 1; n <= begin+page-at; n++ {
					first, behind := Pages(page, at, n)
					met := Met(page, 5*page, blocks(at, n))
					if first*page != begin || behind != first+1 || len(met) != 5 || !met[first] || Count(met) != 1 {
						t.Fatalf("page %d, %d bytes from %d on: %d, %d; %v", page, n, at, first, behind, met)
					}
				}
			}
		}
	}
}

// blocks makes blocks of pairs of At and Charge; how much was asked for must not matter, so it is never the charge.
func blocks(numbers ...int) []api.Block {
	var out []api.Block
	for i := 0; i < len(numbers); i += 2 {
		out = append(out, api.Block{At: numbers[i], Charge: numbers[i+1], Asked: i * 7})
		if out[i/2].Asked == out[i/2].Charge {
			out[i/2].Asked++
		}
	}
	return out
}

// drawn tells which are met as a text: x is met, a point is not.
func drawn(l []bool) string {
	var out []byte
	for _, met := range l {
		if met {
			out = append(out, 'x')
		} else {
			out = append(out, '.')
		}
	}
	return string(out)
}

// drawing is what Met is asked, and what it tells, drawn.
type drawing struct {
	page, size int
	l          []api.Block
	want       string
}

func checkDrawings(t *testing.T, l []drawing) {
	t.Helper()
	for _, x := range l {
		if got := drawn(Met(x.page, x.size, x.l)); got != x.want {
			t.Errorf("Met(%d, %d, %v): %s", x.page, x.size, x.l, got)
		}
	}
}

// P12.1: Met of no block, of one that lies within a page, over two, over many, at the last page, and beyond the last one.
func TestMetOfOneBlock(t *testing.T) {
	checkDrawings(t, []drawing{
		{4, 16, nil, "...."}, {4, 16, []api.Block{}, "...."}, {5, 20, nil, "...."}, {4, 4, nil, "."},
		{4, 16, blocks(0, 1), "x..."}, {4, 16, blocks(0, 4), "x..."}, {4, 16, blocks(3, 1), "x..."}, {4, 16, blocks(1, 2), "x..."}, {4, 16, blocks(4, 1), ".x.."}, {4, 16, blocks(5, 3), ".x.."}, {4, 16, blocks(8, 4), "..x."},
		{4, 16, blocks(0, 5), "xx.."}, {4, 16, blocks(3, 2), "xx.."}, {4, 16, blocks(3, 5), "xx.."}, {4, 16, blocks(0, 8), "xx.."}, {4, 16, blocks(7, 2), ".xx."}, {4, 16, blocks(4, 8), ".xx."},
		{4, 16, blocks(3, 6), "xxx."}, {4, 16, blocks(0, 9), "xxx."}, {4, 16, blocks(0, 12), "xxx."}, {4, 16, blocks(7, 6), ".xxx"}, {4, 16, blocks(0, 13), "xxxx"}, {4, 16, blocks(3, 10), "xxxx"}, {4, 16, blocks(0, 16), "xxxx"},
		{4, 16, blocks(12, 1), "...x"}, {4, 16, blocks(12, 4), "...x"}, {4, 16, blocks(15, 1), "...x"}, {4, 16, blocks(11, 2), "..xx"}, {4, 16, blocks(11, 1), "..x."},
		{4, 16, blocks(12, 5), "...x"}, {4, 16, blocks(15, 2), "...x"}, {4, 16, blocks(15, 99), "...x"}, {4, 16, blocks(0, 17), "xxxx"}, {4, 16, blocks(7, heap), ".xxx"}, {4, 16, blocks(11, 1<<40), "..xx"},
		{4, 16, blocks(16, 1), "...."}, {4, 16, blocks(16, 16), "...."}, {4, 16, blocks(17, 1), "...."}, {4, 16, blocks(99, 99), "...."}, {4, 16, blocks(heap, heap), "...."}, {4, 16, blocks(far, far), "...."},
		{3, 12, blocks(2, 1), "x..."}, {3, 12, blocks(2, 2), "xx.."}, {3, 12, blocks(2, 5), "xxx."}, {3, 12, blocks(3, 6), ".xx."}, {3, 12, blocks(9, 3), "...x"}, {3, 12, blocks(8, 4), "..xx"}, {3, 12, blocks(11, 1), "...x"}, {3, 12, blocks(12, 1), "...."}, {3, 12, blocks(0, 12), "xxxx"}, {3, 12, blocks(1, 100), "xxxx"},
		{8, 16, blocks(4, 8), "xx"}, {16, 16, blocks(4, 8), "x"}, {2, 16, blocks(4, 8), "..xxxx.."}, {1, 16, blocks(4, 8), "....xxxxxxxx...."},
	})
}

// P12.1: blocks that share a page, that lie apart, that end where the next one begins, in any order, more than once, and over each other.
func TestMetOfManyBlocks(t *testing.T) {
	checkDrawings(t, []drawing{
		{4, 16, blocks(3, 2, 12, 4), "xx.x"}, {4, 16, blocks(12, 4, 3, 2), "xx.x"}, {4, 16, blocks(0, 1, 15, 1), "x..x"}, {4, 16, blocks(0, 4, 8, 4), "x.x."}, {4, 16, blocks(4, 4, 12, 4), ".x.x"},
		{4, 16, blocks(0, 1, 1, 1, 2, 1, 3, 1), "x..."}, {4, 16, blocks(4, 2, 6, 2), ".x.."}, {4, 16, blocks(6, 2, 4, 2), ".x.."}, {4, 16, blocks(4, 1, 7, 1), ".x.."}, {4, 16, blocks(2, 4, 6, 4), "xxx."}, {4, 16, blocks(6, 4, 2, 4), "xxx."}, {4, 16, blocks(3, 2, 7, 2, 11, 2), "xxxx"},
		{4, 16, blocks(0, 8, 8, 8), "xxxx"}, {4, 16, blocks(0, 4, 4, 4), "xx.."}, {4, 16, blocks(8, 4, 8, 4), "..x."}, {4, 16, blocks(0, 16, 4, 4), "xxxx"}, {4, 16, blocks(4, 4, 0, 16), "xxxx"}, {4, 16, blocks(3, 8, 5, 1), "xxx."},
		{4, 16, blocks(15, 99, 20, 4), "...x"}, {4, 16, blocks(20, 4, 0, 1), "x..."}, {4, 16, blocks(16, 1, 17, 9, 99, 1), "...."}, {4, 16, blocks(20, 4, 5, 1, 30, 2, 8, 1), ".xx."},
		{5, 20, blocks(0, 1, 4, 2, 19, 1), "xx.x"}, {5, 20, blocks(19, 4, 9, 2, 16, 2), ".xxx"}, {5, 20, blocks(0, 2, 2, 3), "x..."},
		{1, 8, blocks(1, 1, 3, 1, 5, 1, 7, 1), ".x.x.x.x"}, {1, 8, blocks(0, 1, 2, 2, 7, 8), "x.xx...x"},
	})
}

// P12.1: Met at size 0, at sizes that are a multiple of the page and not (what is behind the last whole page is left out), at page 1, and at a page above the size.
func TestMetAtSizes(t *testing.T) {
	checkDrawings(t, []drawing{
		{1, 0, nil, ""}, {4, 0, nil, ""}, {1, 0, blocks(0, 1), ""}, {4, 0, blocks(0, 4, 9, 9), ""}, {far, 0, blocks(0, 1), ""}, {5, 0, blocks(0, greatest), ""},
		{4, 15, blocks(8, 8), "..x"}, {4, 15, blocks(12, 1), "..."}, {4, 15, blocks(11, 2), "..x"}, {4, 15, blocks(14, 1), "..."}, {4, 15, nil, "..."}, {4, 15, blocks(0, 15), "xxx"}, {4, 12, blocks(8, 8), "..x"}, {4, 13, blocks(8, 8), "..x"}, {4, 13, blocks(12, 1), "..."}, {4, 11, blocks(8, 1), ".."}, {4, 11, blocks(7, 2), ".x"}, {4, 16, blocks(12, 1), "...x"}, {4, 17, blocks(12, 1), "...x"}, {4, 17, blocks(16, 1), "...."}, {4, 7, blocks(0, 7), "x"}, {4, 8, blocks(0, 7), "xx"}, {4, 9, blocks(0, 9), "xx"},
		{5, 14, blocks(10, 4), ".."}, {5, 15, blocks(10, 4), "..x"}, {5, 16, blocks(10, 4), "..x"}, {5, 16, blocks(15, 1), "..."}, {5, 14, blocks(9, 4), ".x"}, {5, 19, blocks(14, 1, 15, 4), "..x"}, {7, 20, blocks(13, 7), ".x"}, {7, 20, blocks(14, 6), ".."},
		{1, 1, nil, "."}, {1, 1, blocks(0, 1), "x"}, {1, 1, blocks(0, 9), "x"}, {1, 1, blocks(1, 1), "."}, {1, 5, blocks(0, 1, 4, 1), "x...x"}, {1, 5, blocks(1, 3), ".xxx."}, {1, 5, blocks(4, 3), "....x"}, {1, 5, blocks(5, 3), "....."},
		{4, 1, blocks(0, 1), ""}, {4, 3, blocks(0, 1), ""}, {4, 3, nil, ""}, {4, 3, blocks(0, 4), ""}, {4, 4, blocks(0, 1), "x"}, {5, 4, blocks(0, 4), ""}, {16, 15, blocks(0, 15), ""}, {17, 16, blocks(0, 17), ""}, {heap + 1, heap, blocks(0, heap), ""}, {2 * heap, heap, blocks(0, heap), ""}, {far, heap, blocks(0, heap), ""}, {1 << 62, heap, blocks(0, heap), ""}, {greatest, heap, blocks(0, greatest), ""}, {greatest, 0, nil, ""}, {greatest - 1, heap, blocks(0, 1), ""},
		{heap, heap, nil, "."}, {heap, heap, blocks(0, 1), "x"}, {heap, heap, blocks(heap-1, 1), "x"}, {heap, heap, blocks(heap, 1), "."}, {heap, heap - 1, blocks(0, 1), ""}, {heap - 1, heap, blocks(0, 1), "x"}, {heap - 1, heap, blocks(heap-2, 9), "x"}, {heap - 1, heap, blocks(heap-1, 1), "."}, {heap / 2, heap, blocks(heap/2, 1), ".x"}, {heap / 2, heap - 1, blocks(heap/2, 1), "."}, {heap / 2, heap, blocks(heap/2-1, 2), "xx"},
	})
}

// P12.1: where page is below 1, or size not from 0 to MaxHeap, there is none.
func TestMetOfNone(t *testing.T) {
	for _, l := range [][]api.Block{nil, {}, blocks(0, 1), blocks(0, heap, 4, 4)} {
		for _, page := range []int{0, -1, -2, -4, -heap, -far, least, least + 1} {
			for _, size := range []int{0, 1, 4, 16, heap, heap + 1, -1, -16, greatest, least} {
				if got := Met(page, size, l); len(got) != 0 {
					t.Fatalf("Met(%d, %d, %v): %d pages", page, size, l, len(got))
				}
			}
		}
		for _, size := range []int{-1, -2, -4, -16, -heap, -far, least, least + 1, heap + 1, heap + 2, heap + 4, 2 * heap, 1 << 20, 1 << 32, far, greatest, greatest - 1} {
			for _, page := range []int{1, 2, 3, 4, 5, 16, heap, heap + 1, far, 1 << 62, greatest} {
				if got := Met(page, size, l); len(got) != 0 {
					t.Fatalf("Met(%d, %d, %v): %d pages", page, size, l, len(got))
				}
			}
		}
	}
}

// plainMet goes through the bytes of each page, and asks of each if it is a block's.
func plainMet(page, size int, l []api.Block) []bool {
	var out []bool
	for begin := 0; page <= size-begin; begin += page {
		met := false
		for i := begin; i < begin+page; i++ {
			for _, b := range l {
				met = met || b.At <= i && i-b.At < b.Charge
			}
		}
		out = append(out, met)
	}
	return out
}

func checkMet(t *testing.T, page, size int, l []api.Block) {
	t.Helper()
	got, want := Met(page, size, l), plainMet(page, size, l)
	if !slices.Equal(got, want) {
		t.Fatalf("Met(%d, %d, %v): %s, not %s", page, size, l, drawn(got), drawn(want))
	}
	if count := Count(got); count != plainCount(want) {
		t.Fatalf("Count(%s): %d", drawn(got), count)
	}
}

// plainCount tells how many are met by leaving out those that are not.
func plainCount(l []bool) int {
	return len(slices.DeleteFunc(slices.Clone(l), func(met bool) bool { return !met }))
}

// P12.1: of all small pages, sizes and blocks Met is as its bytes have it, of one block and of two.
func TestMetAsSaidPlainly(t *testing.T) {
	var small []api.Block
	for at := range 11 {
		for charge := 1; charge <= 11; charge++ {
			small = append(small, api.Block{At: at, Charge: charge})
		}
	}
	for page := 1; page <= 10; page++ {
		for size := range 10 {
			checkMet(t, page, size, nil)
			for i, b := range small {
				checkMet(t, page, size, []api.Block{b})
				for _, c := range small[i%5:] {
					if c.At%2 == size%2 && c.Charge%3 == page%3 {
						checkMet(t, page, size, []api.Block{b, c})
					}
				}
			}
		}
	}
}

// heapBlocks lie apart, and are of all sizes from 1 to 4096, some of them beyond MaxHeap.
func heapBlocks() []api.Block {
	var out []api.Block
	for i, at := 0, 0; at < heap+9000; i++ {
		charge := 1 << (i * 5 % 13)
		out = append(out, api.Block{At: at, Charge: charge, Asked: charge / 2})
		at += charge + i*37%211
	}
	return out
}

// P12.1: Met at MaxHeap and near it, of many blocks, with pages that are powers of two and such as are none; each byte's page is worked out by itself.
func TestMetAtMaxHeap(t *testing.T) {
	l := heapBlocks()
	for _, page := range []int{1, 2, 3, 7, 16, 64, 100, 255, 256, 1000, 4096, 4097, heap / 2, heap - 1, heap, heap + 1} {
		for _, size := range []int{heap, heap - 1, heap - 4096, heap / 2, 12345} {
			want := make([]bool, size/page)
			for _, b := range l {
				for i := range b.Charge {
					if at := (b.At + i) / page; at < len(want) {
						want[at] = true
					}
				}
			}
			got := Met(page, size, l)
			if !slices.Equal(got, want) || Count(got) != plainCount(want) {
				t.Fatalf("page %d, size %d: %d pages, %d met", page, size, len(got), Count(got))
			}
			slices.Reverse(l)
		}
	}
}

// P12.1: a page for each byte of the greatest heap, none of them met, each second one, all.
func TestEachByteAPage(t *testing.T) {
	var second []api.Block
	for at := 0; at < heap; at += 2 {
		second = append(second, api.Block{At: at, Charge: 1})
	}
	for i, x := range []struct {
		l    []api.Block
		want int
	}{{nil, 0}, {second, heap / 2}, {blocks(0, heap), heap}, {blocks(0, heap-1), heap - 1}, {blocks(1, heap), heap - 1}, {blocks(0, 1, heap-1, 1), 2}, {blocks(0, heap+1, 4, 9), heap}} {
		met := Met(1, heap, x.l)
		if len(met) != heap || Count(met) != x.want {
			t.Errorf("%d: %d pages, %d met", i, len(met), Count(met))
		}
	}
}

// P12.1: blocks whose At and Charge together are more than an int holds: At is from 0 on, and the charge from 1 on, so they lie in each page behind.
func TestMetOfGreatBlocks(t *testing.T) {
	checkDrawings(t, []drawing{
		{4, 16, blocks(0, greatest), "xxxx"}, {4, 16, blocks(1, greatest), "xxxx"}, {4, 16, blocks(3, greatest), "xxxx"}, {4, 16, blocks(4, greatest), ".xxx"}, {4, 16, blocks(5, greatest-4), ".xxx"}, {4, 16, blocks(5, greatest-5), ".xxx"}, {4, 16, blocks(12, greatest), "...x"}, {4, 16, blocks(15, greatest), "...x"}, {4, 16, blocks(16, greatest), "...."}, {4, 16, blocks(17, greatest), "...."},
		{4, 16, blocks(greatest, 1), "...."}, {4, 16, blocks(greatest, 2), "...."}, {4, 16, blocks(greatest, 17), "...."}, {4, 16, blocks(greatest, greatest), "...."}, {4, 16, blocks(greatest-1, 2), "...."}, {4, 16, blocks(1<<62, 1<<62), "...."}, {4, 16, blocks(greatest-15, 16), "...."}, {4, 16, blocks(greatest-15, 17), "...."},
		{4, 16, blocks(greatest, greatest, 5, 1), ".x.."}, {4, 16, blocks(5, 1, 12, greatest), ".x.x"}, {4, 16, blocks(1<<32, 4, 1<<32+4, 1<<32), "...."}, {4, 16, blocks(0, 1<<32), "xxxx"}, {4, 16, blocks(5, 1<<32+1), ".xxx"},
		{5, 16, blocks(7, greatest), ".xx"}, {5, 16, blocks(15, greatest), "..."}, {1, 4, blocks(2, greatest), "..xx"}, {1, 4, blocks(greatest, greatest), "...."},
	})
}

// P12.1: Count of none, of all, of some.
func TestCount(t *testing.T) {
	for _, x := range []struct {
		l    []bool
		want int
	}{
		{nil, 0}, {[]bool{}, 0}, {[]bool{false}, 0}, {[]bool{true}, 1}, {[]bool{true, true, true}, 3}, {[]bool{false, false, false}, 0}, {[]bool{true, false, true, false}, 2}, {[]bool{false, false, true}, 1}, {[]bool{true, false, false}, 1}, {[]bool{false, true, false}, 1},
		{make([]bool, heap), 0}, {slices.Repeat([]bool{true}, heap), heap}, {slices.Repeat([]bool{true, false, true}, 1000), 2000},
	} {
		if got := Count(x.l); got != x.want {
			t.Errorf("Count of %d pages: %d", len(x.l), got)
		}
	}
}

// P12.1: of each way in which ten pages can be met, Count tells as many as the way's number has ones.
func TestCountAsSaidPlainly(t *testing.T) {
	for way := range 1024 {
		var l []bool
		ones := 0
		for rest := way; len(l) < 10; rest /= 2 {
			l = append(l, rest%2 == 1)
			ones += rest % 2
		}
		if got := Count(l); got != ones {
			t.Fatalf("Count(%s): %d", drawn(l), got)
		}
	}
}

// odd are numbers within the limits, at their edges, beyond them, and as great and as small as an int can be.
func odd() []int {
	return []int{least, least + 1, -1 << 62, -far, -heap, -5, -4, -1, 0, 1, 2, 3, 4, 5, 16, heap - 1, heap, heap + 1, 1 << 32, far - 1, far, far + 1, 1 << 62, 1<<62 + 1, greatest - 1, greatest}
}

// R1, R4: no call of Pages panics, whatever it is handed, and the same is told again; of one below 0, 0.
func TestOddNumbersEnd(t *testing.T) {
	for _, page := range odd() {
		for _, at := range odd() {
			for _, n := range odd() {
				first, behind := Pages(page, at, n)
				again, behindAgain := Pages(page, at, n)
				below := page < 1 || at < 0 || n < 0
				if again != first || behindAgain != behind || below && (first != 0 || behind != 0) {
					t.Fatalf("Pages(%d, %d, %d): %d, %d", page, at, n, first, behind)
				}
			}
		}
	}
}

// R1, R4: no call of Met panics, whatever it is handed, and the same is told again: of so many pages as there are; where the blocks may be, each as its bytes have it.
func TestOddBlocksEnd(t *testing.T) {
	for _, at := range odd() {
		for _, charge := range odd() {
			for _, l := range [][]api.Block{
				{{At: at, Charge: charge, Asked: charge}},
				{{At: at, Charge: charge, Asked: at}, {At: 5, Charge: 2, Asked: least}},
				{{At: 2, Charge: 1, Asked: greatest}, {At: charge, Charge: at}, {At: at, Charge: charge}},
			} {
				checkOddMet(t, l)
			}
		}
	}
}

func checkOddMet(t *testing.T, l []api.Block) {
	t.Helper()
	may := true
	for _, b := range l {
		may = may && b.At >= 0 && b.Charge >= 1
	}
	for _, page := range odd() {
		for _, size := range []int{least, -1, 0, 1, 5, 15, 16, heap + 1, greatest} {
			pages := 0
			if page >= 1 && size >= 0 && size <= heap {
				pages = size / page
			}
			got := Met(page, size, l)
			if len(got) != pages || !slices.Equal(got, Met(page, size, l)) {
				t.Fatalf("Met(%d, %d, %v): %s", page, size, l, drawn(got))
			}
			if may && pages > 0 && !slices.Equal(got, plainMet(page, size, l)) {
				t.Fatalf("Met(%d, %d, %v): %s", page, size, l, drawn(got))
			}
		}
	}
}

// R3: what is handed in is not changed, its spare room neither.
func TestHandedInIsNotChanged(t *testing.T) {
	for _, l := range [][]api.Block{
		blocks(3, 2, 12, 4, 20, 4, 7, 7, 8, 8), blocks(12, 99, 3, 2, 5, greatest, 0, 1), blocks(-1, 4, 4, -1, 0, 0, least, least),
	} {
		was := slices.Clone(l)
		for _, page := range []int{-1, 0, 1, 4, 5, 17} {
			Met(page, 16, l[:2])
			Met(page, heap+1, l[:2])
			Met(page, 15, l[:0])
		}
		if !slices.Equal(l, was) {
			t.Errorf("%v was changed to %v", was, l)
		}
	}
	for _, met := range [][]bool{{true, false, true, true, false, true}, {true, false, true, true, true, false}} {
		was := slices.Clone(met)
		if count := Count(met[:4]); count != 3 || !slices.Equal(met, was) {
			t.Errorf("Count told %d, and changed %v to %v", count, was, met)
		}
	}
}

// R3: what was told stays as it was, whatever is then done to the blocks that were handed in, or to another answer; and what is written into an answer, in its spare room too, is not told again.
func TestNothingIsKept(t *testing.T) {
	l := blocks(3, 2, 12, 4)
	got, other := Met(4, 16, l), Met(4, 16, l)
	l[0], l[1] = api.Block{At: 8, Charge: 1}, api.Block{}
	other = other[:cap(other)]
	for i := range other {
		other[i] = !other[i]
	}
	if drawn(got) != "xx.x" || drawn(Met(4, 16, blocks(3, 2, 12, 4))) != "xx.x" || drawn(Met(4, 16, blocks(8, 1))) != "..x." || Count(got) != 3 {
		t.Errorf("%s", drawn(got))
	}
}

// R3: nil and an empty list are one, with spare room too.
func TestNilAndEmptyAreOne(t *testing.T) {
	for _, l := range [][]api.Block{nil, {}, blocks(0, 16)[:0]} {
		if got := drawn(Met(4, 16, l)); got != "...." {
			t.Errorf("Met of %#v: %s", l, got)
		}
	}
	for _, l := range [][]bool{nil, {}, {true}} {
		if got := Count(l[:0]); got != 0 {
			t.Errorf("Count of %#v: %d", l, got)
		}
	}
}
