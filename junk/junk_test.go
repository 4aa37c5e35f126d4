package junk

import (
	"bytes"
	"math/big"
	"slices"
	"testing"
)

const (
	greatest = 1<<63 - 1
	least    = -1 << 63
	heap     = 65536 // MaxHeap, written out: no heap has more bytes
)

// ask is what Byte is asked, and what it tells.
type ask struct {
	seed, page, i int
	want          byte
}

func checkAsks(t *testing.T, l []ask) {
	t.Helper()
	for _, x := range l {
		if got := Byte(x.seed, x.page, x.i); got != x.want {
			t.Errorf("Byte(%d, %d, %d): %d, not %d", x.seed, x.page, x.i, got, x.want)
		}
	}
}

// P14.1: the chapter's example.
func TestExample(t *testing.T) {
	checkAsks(t, []ask{{0, 0, 0, 1}})
}

// P14.1: Byte of ordinary numbers, each of them alone and together with others.
func TestByteOfOrdinaryNumbers(t *testing.T) {
	checkAsks(t, []ask{
		{1, 0, 0, 2}, {2, 0, 0, 3}, {5, 0, 0, 6}, {100, 0, 0, 101},
		{0, 1, 0, 32}, {0, 2, 0, 63}, {0, 3, 0, 94}, {0, 8, 0, 249},
		{0, 0, 1, 8}, {0, 0, 2, 15}, {0, 0, 3, 22}, {0, 0, 36, 253},
		{1, 1, 0, 33}, {1, 0, 1, 9}, {0, 1, 1, 39}, {1, 1, 1, 40}, {10, 3, 4, 132}, {4, 3, 10, 168}, {3, 10, 4, 86}, {7, 2, 20, 210},
	})
}

// P14.1: Byte of numbers whose sum is just below a multiple of 256, just that, and just above it, the first multiple and later ones.
func TestByteAtMultiplesOf256(t *testing.T) {
	checkAsks(t, []ask{
		{254, 0, 0, 255}, {255, 0, 0, 0}, {256, 0, 0, 1}, {510, 0, 0, 255}, {511, 0, 0, 0}, {512, 0, 0, 1}, {65534, 0, 0, 255}, {65535, 0, 0, 0}, {65536, 0, 0, 1},
		{6, 8, 0, 255}, {7, 8, 0, 0}, {8, 8, 0, 1}, {2, 0, 36, 255}, {3, 0, 36, 0}, {4, 0, 36, 1},
		{0, 2, 27, 252}, {3, 2, 27, 255}, {4, 2, 27, 0}, {5, 2, 27, 1}, {0, 8, 1, 0}, {0, 1, 32, 0}, {0, 33, 0, 0}, {0, 0, 73, 0}, {0, 32, 0, 225}, {0, 34, 0, 31}, {0, 0, 72, 249}, {0, 0, 74, 7},
		{0, 255, 0, 226}, {0, 256, 0, 1}, {0, 257, 0, 32}, {0, 0, 255, 250}, {0, 0, 256, 1}, {0, 0, 257, 8}, {255, 255, 255, 218}, {256, 256, 256, 1}, {254, 256, 256, 255}, {255, 256, 256, 0},
	})
}

// P14.1: Byte of numbers below 0 is from 0 on, too.
func TestByteBelowNought(t *testing.T) {
	checkAsks(t, []ask{
		{-1, 0, 0, 0}, {-2, 0, 0, 255}, {-3, 0, 0, 254}, {-255, 0, 0, 2}, {-256, 0, 0, 1}, {-257, 0, 0, 0}, {-258, 0, 0, 255}, {-1000, 0, 0, 25},
		{0, -1, 0, 226}, {0, -8, 0, 9}, {0, -9, 0, 234}, {0, -256, 0, 1}, {0, -257, 0, 226}, {0, 0, -1, 250}, {0, 0, -36, 5}, {0, 0, -37, 254}, {0, 0, -256, 1}, {-1, -1, -1, 218}, {31, -1, 0, 1}, {7, 0, -1, 1}, {30, -1, 0, 0}, {29, -1, 0, 255},
	})
}

// P14.1: Byte of numbers as great and as small as an int can be, whose sums and products run over.
func TestByteOfGreatNumbers(t *testing.T) {
	checkAsks(t, []ask{
		{greatest, 0, 0, 0}, {greatest - 1, 0, 0, 255}, {greatest - 255, 0, 0, 1}, {least, 0, 0, 1}, {least + 1, 0, 0, 2}, {least + 255, 0, 0, 0},
		{0, greatest, 0, 226}, {0, greatest - 255, 0, 1}, {0, least, 0, 1}, {0, least + 1, 0, 32}, {0, 0, greatest, 250}, {0, 0, greatest - 255, 1}, {0, 0, least, 1}, {0, 0, least + 1, 8},
		{greatest, greatest, greatest, 218}, {least, least, least, 1}, {greatest, least, least, 0}, {least, greatest, least, 226}, {least, least, greatest, 250}, {7, 1 << 40, 1 << 40, 8}, {1 << 62, 1 << 62, 1 << 62, 1}, {1<<62 + 5, 1<<62 + 1, 1<<62 + 2, 51}, {1 << 31, 1 << 31, 1 << 31, 1}, {1<<32 - 1, 1<<32 - 1, 1<<32 - 1, 218},
	})
}

// P14.1: Byte of all that numbers can be modulo 256, held against sums.
func TestByteOfAllSmallNumbers(t *testing.T) {
	for seed := range 256 {
		for page := range 256 {
			for i := range 256 {
				if got := Byte(seed, page, i); int(got) != (seed+31*page+7*i+1)%256 {
					t.Fatalf("Byte(%d, %d, %d): %d", seed, page, i, got)
				}
			}
		}
	}
}

// numbers are as small and as great as an int can be, those near powers of two, and some between.
func numbers() []int {
	out := []int{least, least + 1, least + 2, greatest - 2, greatest - 1, greatest, greatest / 3, greatest / 7, greatest / 31, least / 3, least / 7, least / 31, 1000000007, -1000000007}
	for _, shift := range []int{0, 1, 2, 3, 7, 8, 9, 15, 16, 31, 32, 58, 59, 60, 61, 62} {
		for more := -1; more <= 1; more++ {
			out = append(out, 1<<shift+more, more-1<<shift)
		}
	}
	return out
}

// plainByte says the promise once more, in numbers that don't run over.
func plainByte(seed, page, i int) byte {
	sum := big.NewInt(1)
	sum.Add(sum, big.NewInt(int64(seed)))
	sum.Add(sum, new(big.Int).Mul(big.NewInt(31), big.NewInt(int64(page))))
	sum.Add(sum, new(big.Int).Mul(big.NewInt(7), big.NewInt(int64(i))))
	return byte(sum.Mod(sum, big.NewInt(256)).Int64())
}

// P14.1: Byte of great and small numbers together, held against sums that don't run over.
func TestByteAsSaidPlainly(t *testing.T) {
	all := numbers()
	for _, seed := range all {
		for _, page := range all {
			for _, i := range all {
				if got := Byte(seed, page, i); got != plainByte(seed, page, i) {
					t.Fatalf("Byte(%d, %d, %d): %d", seed, page, i, got)
				}
			}
		}
	}
}

// fill is which page of how many bytes Fill is asked to fill, and what it tells.
type fill struct {
	page, size int
	want       string
}

func checkFills(t *testing.T, mem string, seed int, l []fill) {
	t.Helper()
	for _, x := range l {
		if got := Fill([]byte(mem), seed, x.page, x.size); string(got) != x.want {
			t.Errorf("Fill(%q, %d, %d, %d): %q, not %q", mem, seed, x.page, x.size, got, x.want)
		}
	}
}

// P14.1: Fill of a page at the beginning, in the middle, and at the end.
func TestFillOfAPage(t *testing.T) {
	checkFills(t, "abcdefghijkl", 5, []fill{
		{0, 4, "\x06\x0d\x14\x1befghijkl"}, {1, 4, "abcd\x25\x2c\x33\x3aijkl"}, {2, 4, "abcdefgh\x44\x4b\x52\x59"},
		{0, 3, "\x06\x0d\x14defghijkl"}, {1, 3, "abc\x25\x2c\x33ghijkl"}, {2, 3, "abcdef\x44\x4b\x52jkl"}, {3, 3, "abcdefghi\x63\x6a\x71"},
		{0, 6, "\x06\x0d\x14\x1b\x22\x29ghijkl"}, {1, 6, "abcdef\x25\x2c\x33\x3a\x41\x48"}, {5, 2, "abcdefghij\xa1\xa8"},
	})
}

// P14.1: a page that is there in part is filled as far as it is.
func TestFillOfAPageInPart(t *testing.T) {
	checkFills(t, "abcdefghij", 5, []fill{
		{2, 4, "abcdefgh\x44\x4b"}, {3, 3, "abcdefghi\x63"}, {1, 9, "abcdefghi\x25"}, {1, 8, "abcdefgh\x25\x2c"}, {1, 7, "abcdefg\x25\x2c\x33"}, {1, 6, "abcdef\x25\x2c\x33\x3a"},
		{0, 11, "\x06\x0d\x14\x1b\x22\x29\x30\x37\x3e\x45"}, {0, 12, "\x06\x0d\x14\x1b\x22\x29\x30\x37\x3e\x45"}, {0, heap, "\x06\x0d\x14\x1b\x22\x29\x30\x37\x3e\x45"}, {0, 1 << 62, "\x06\x0d\x14\x1b\x22\x29\x30\x37\x3e\x45"}, {0, greatest, "\x06\x0d\x14\x1b\x22\x29\x30\x37\x3e\x45"},
	})
}

// P14.1: nothing is filled of a page behind all, of the next one and of later ones, as great as its number may be.
func TestFillBehindAll(t *testing.T) {
	const mem = "abcdefghij"
	checkFills(t, mem, 5, []fill{
		{3, 4, mem}, {4, 4, mem}, {10, 1, mem}, {11, 1, mem}, {5, 2, mem}, {6, 2, mem}, {4, 3, mem}, {2, 5, mem}, {2, 6, mem}, {1, 10, mem}, {1, 11, mem}, {2, 10, mem}, {1, heap, mem}, {heap, 1, mem},
		{1, greatest, mem}, {2, greatest, mem}, {greatest, 1, mem}, {greatest, 2, mem}, {greatest, greatest, mem}, {1 << 62, 1, mem},
		// These products run over, to 0, to a byte that is there, and to one below 0.
		{1 << 62, 4, mem}, {1 << 32, 1 << 32, mem}, {1 << 40, 1 << 24, mem}, {1 << 62, 1 << 62, mem}, {4, 1 << 62, mem}, {0x5555555555555556, 3, mem}, {3, 0x5555555555555556, mem}, {1<<32 + 1, 1<<32 - 1, mem}, {1 << 62, 2, mem}, {2, 1 << 62, mem}, {3, 1 << 62, mem},
	})
}

// P14.1: of page 0, of a page of one byte, of a page as great as all there is, one less, and one more.
func TestFillAtEdges(t *testing.T) {
	checkFills(t, "abcd", 0, []fill{
		{0, 1, "\x01bcd"}, {1, 1, "a\x20cd"}, {2, 1, "ab\x3fd"}, {3, 1, "abc\x5e"}, {4, 1, "abcd"},
		{0, 3, "\x01\x08\x0fd"}, {0, 4, "\x01\x08\x0f\x16"}, {0, 5, "\x01\x08\x0f\x16"}, {1, 3, "abc\x20"}, {1, 4, "abcd"}, {1, 5, "abcd"}, {0, 2, "\x01\x08cd"}, {1, 2, "ab\x20\x27"}, {2, 2, "abcd"},
	})
	checkFills(t, "a", 254, []fill{{0, 1, "\xff"}, {0, 2, "\xff"}, {1, 1, "a"}, {0, 0, "a"}})
}

// P14.1: of a page of no byte nothing is filled, whichever it is.
func TestFillOfNoByte(t *testing.T) {
	const mem = "abcdefghij"
	checkFills(t, mem, 5, []fill{{0, 0, mem}, {1, 0, mem}, {9, 0, mem}, {10, 0, mem}, {11, 0, mem}, {greatest, 0, mem}})
	checkFills(t, "a", 5, []fill{{0, 0, "a"}, {1, 0, "a"}})
}

// P14.1: a page or a size below 0 is told mem.
func TestFillBelowNought(t *testing.T) {
	const mem = "abcdefghij"
	for _, below := range []int{-1, -2, -4, -9, -10, -11, -heap, -1 << 31, -1 << 32, -1 << 62, -greatest, least + 1, least} {
		checkFills(t, mem, 5, []fill{
			{below, 1, mem}, {below, 4, mem}, {below, 10, mem}, {below, 0, mem}, {below, greatest, mem}, {below, -1, mem}, {below, -4, mem}, {below, least, mem}, {below, below, mem},
			{0, below, mem}, {1, below, mem}, {9, below, mem}, {greatest, below, mem}, {-1, below, mem}, {-4, below, mem}, {least, below, mem},
		})
	}
}

// P14.1: where nothing is there, nothing is filled. R3: nil and an empty list are one.
func TestFillOfNothing(t *testing.T) {
	all := append(numbers(), 3, 4, 5, 10)
	for _, page := range all {
		for _, size := range all {
			for _, mem := range [][]byte{nil, {}, make([]byte, 0, 9)} {
				if got := Fill(mem, 5, page, size); len(got) != 0 {
					t.Fatalf("Fill of nothing, page %d of %d bytes: %q", page, size, got)
				}
			}
		}
	}
}

// P14.1: the same page filled twice is as filled once; of another seed it is as filled with that one alone.
func TestFillTwice(t *testing.T) {
	for page := range 5 {
		mem := []byte("abcdefghijkl")
		once := Fill(mem, 5, page, 3)
		if twice := Fill(once, 5, page, 3); !bytes.Equal(twice, once) {
			t.Errorf("page %d twice: %q", page, twice)
		}
		if got := Fill(once, 6, page, 3); !bytes.Equal(got, Fill(mem, 6, page, 3)) {
			t.Errorf("page %d of another seed: %q", page, got)
		}
	}
}

// P14.1: two pages filled one behind the other, in either order, and then all: each stands as it is filled.
func TestFillOnePageBehindTheOther(t *testing.T) {
	const want = "abc\x25\x2c\x33\x44\x4b\x52jk"
	mem := []byte("abcdefghijk")
	if got := Fill(Fill(mem, 5, 1, 3), 5, 2, 3); string(got) != want {
		t.Errorf("pages 1 and 2: %q", got)
	}
	if got := Fill(Fill(mem, 5, 2, 3), 5, 1, 3); string(got) != want {
		t.Errorf("pages 2 and 1: %q", got)
	}
	for _, order := range [][]int{{0, 1, 2, 3}, {3, 2, 1, 0}, {2, 0, 3, 1}, {0, 0, 1, 2, 3, 1, 4}} {
		got := mem
		for _, page := range order {
			got = Fill(got, 5, page, 3)
		}
		if string(got) != "\x06\x0d\x14\x25\x2c\x33\x44\x4b\x52\x63\x6a" {
			t.Errorf("pages %d: %q", order, got)
		}
	}
}

// P14.1: all bytes that a byte can be stay where they stand ahead of the page and behind it.
func TestOtherBytesStay(t *testing.T) {
	var all []byte
	for b := range 256 {
		all = append(all, byte(b))
	}
	for _, size := range []int{1, 2, 7, 16} {
		mem := slices.Concat(all, make([]byte, size), all)
		for page := range 1 + 256/size {
			checkFill(t, mem, 3, page, size)
		}
		// All bytes stand both ahead of a page that begins just at 256 and behind it.
		if at := 256 / size; at*size == 256 {
			got := Fill(mem, 3, at, size)
			if !bytes.Equal(got[:256], all) || !bytes.Equal(got[256+size:], all) {
				t.Errorf("page %d of %d bytes: %q", at, size, got)
			}
		}
	}
}

// P14.1: what follows: what stands in a fresh page is nobody's: it hangs on nothing that stood there.
func TestNothingOfWhatStoodThere(t *testing.T) {
	for page := range 4 {
		for b := range 256 {
			mem := bytes.Repeat([]byte{byte(b)}, 16)
			got := Fill(mem, 9, page, 4)
			for i := range 4 {
				if want := plainByte(9, page, i); got[4*page+i] != want {
					t.Fatalf("page %d over bytes %d: %q", page, b, got)
				}
			}
		}
	}
}

// plainFill says the promise once more, byte by byte: each is asked which page it lies in.
func plainFill(mem []byte, seed, page, size int) []byte {
	out := bytes.Clone(mem)
	if page < 0 || size <= 0 {
		return out
	}
	for at := range out {
		if at/size == page {
			out[at] = plainByte(seed, page, at%size)
		}
	}
	return out
}

func checkFill(t *testing.T, mem []byte, seed, page, size int) {
	t.Helper()
	if got := Fill(mem, seed, page, size); !bytes.Equal(got, plainFill(mem, seed, page, size)) {
		t.Fatalf("Fill(%q, %d, %d, %d): %q", mem, seed, page, size, got)
	}
}

// letters makes n bytes, of which none is as those near it.
func letters(n int) []byte {
	out := make([]byte, n)
	for i := range out {
		out[i] = byte(i*i + 3*i + 77)
	}
	return out
}

// P14.1: of up to twelve bytes all pages are filled as the promise has them.
func TestFillAsSaidPlainly(t *testing.T) {
	for n := range 13 {
		for page := -2; page <= n+2; page++ {
			for size := -2; size <= n+2; size++ {
				for _, seed := range []int{0, 1, 100, 255, -7, greatest, least} {
					checkFill(t, letters(n), seed, page, size)
				}
			}
		}
	}
}

// P14.1: R1: numbers as great and as small as an int can be, and all between: no call panics, and each ends, and fills what the promise has.
func TestFillOfGreatNumbers(t *testing.T) {
	all := append(numbers(), 3, 4, 5, 6, 9, 10, 11, 12)
	for _, mem := range [][]byte{letters(1), letters(10), letters(300)} {
		for _, page := range all {
			for _, size := range all {
				for _, seed := range []int{0, 200, greatest, least} {
					checkFill(t, mem, seed, page, size)
				}
			}
		}
	}
}

// P14.1: of as many bytes as a heap can have, one fewer and more, pages of all kinds of sizes are filled as the promise has them.
func TestFillOfGreatPages(t *testing.T) {
	for _, n := range []int{heap - 1, heap, heap + 1, 2*heap + 37} {
		mem := letters(n)
		for _, size := range []int{1, 2, 255, 256, 257, 1000, 4096, heap / 2, heap - 1, heap, heap + 1, n - 1, n, n + 1} {
			for _, page := range []int{0, 1, 2, 255, 256, 257, n/size - 1, n / size, n/size + 1} {
				checkFill(t, mem, 11, page, size)
			}
		}
	}
}

// P14.1: a heap whose pages are filled one behind another holds what Byte has of each.
func TestFillOfAllPages(t *testing.T) {
	for _, size := range []int{64, 256, 1024, 4096, heap} {
		mem := make([]byte, heap)
		for page := range heap / size {
			mem = Fill(mem, 77, page, size)
		}
		for at, b := range mem {
			if b != Byte(77, at/size, at%size) {
				t.Fatalf("byte %d, pages of %d bytes: %d", at, size, b)
			}
		}
	}
}

// asks are pages of all kinds to fill of ten bytes: such as are there, in part, not at all, and wrong ones.
func asks() []fill {
	return []fill{{page: 0, size: 4}, {page: 1, size: 4}, {page: 2, size: 4}, {page: 3, size: 4}, {page: 0, size: 10}, {page: 0, size: 99}, {page: 1, size: 10}, {page: 0, size: 0}, {page: 0, size: 1}, {page: -1, size: 4}, {page: 1, size: -4}, {page: greatest, size: greatest}, {page: least, size: least}}
}

// R3: what is handed in is not changed, its spare room neither.
func TestNotChanged(t *testing.T) {
	for _, x := range asks() {
		room := []byte("abcdefghijklmnopqrstuvwxyz")
		Fill(room[:10], 5, x.page, x.size)
		Fill(room[3:13:15], 5, x.page, x.size)
		Fill(room[:0], 5, x.page, x.size)
		if string(room) != "abcdefghijklmnopqrstuvwxyz" {
			t.Errorf("page %d of %d bytes: %q", x.page, x.size, room)
		}
	}
}

// R3: what is told is new memory, also where nothing is filled: whoever changes or grows it changes neither what was handed in nor what was told otherwise.
func TestNewMemory(t *testing.T) {
	for _, x := range asks() {
		room := []byte("abcdefghijklmnopqrstuvwxyz")
		first, second := Fill(room[:10], 5, x.page, x.size), Fill(room[:10], 5, x.page, x.size)
		want := bytes.Clone(second)
		for i := range first {
			first[i] ^= 255
		}
		_ = append(first, "0123456789012345"...)
		if string(room) != "abcdefghijklmnopqrstuvwxyz" || !bytes.Equal(second, want) {
			t.Errorf("page %d of %d bytes: %q, %q", x.page, x.size, room, second)
		}
	}
}

// R3: what is handed in is not kept: what was told stays, and what is told later hangs on what is handed in then.
func TestNothingKept(t *testing.T) {
	for _, x := range asks() {
		mem := letters(10)
		got := Fill(mem, 5, x.page, x.size)
		want := plainFill(mem, 5, x.page, x.size)
		for i := range mem {
			mem[i] ^= 255
		}
		if !bytes.Equal(got, want) {
			t.Errorf("page %d of %d bytes: %q, not %q", x.page, x.size, got, want)
		}
		checkFill(t, mem, 5, x.page, x.size)
	}
}

// R4: the same is told again, whatever was asked between.
func TestTheSameAgain(t *testing.T) {
	for _, x := range asks() {
		mem := letters(10)
		want := Fill(mem, 5, x.page, x.size)
		Fill(letters(40), 9, 2, 7)
		Byte(1, 2, 3)
		if got := Fill(mem, 5, x.page, x.size); !bytes.Equal(got, want) {
			t.Errorf("page %d of %d bytes: %q, then %q", x.page, x.size, want, got)
		}
	}
}
