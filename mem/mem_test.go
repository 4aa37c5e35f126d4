package mem

import (
	"bytes"
	"testing"
)

const (
	greatest = 1<<63 - 1
	least    = -1 << 63
	heap     = 65536 // MaxHeap, written out: no heap has more bytes
	ten      = "abcdefghij"
)

// numbers are as small and as great as an int can be, those near powers of two, and all near nought.
func numbers() []int {
	out := []int{least, least + 1, least + 2, greatest - 2, greatest - 1, greatest, greatest / 3, least / 3, 1000000007, -1000000007}
	for _, shift := range []int{4, 7, 8, 9, 15, 16, 31, 32, 33, 40, 61, 62} {
		for more := -1; more <= 1; more++ {
			out = append(out, 1<<shift+more, more-1<<shift)
		}
	}
	for i := -12; i <= 12; i++ {
		out = append(out, i)
	}
	return out
}

// belowNought are numbers below 0, among them such as a length of 10 and they, together or one less the other, would make one that is there.
func belowNought() []int {
	return []int{-1, -2, -3, -9, -10, -11, -256, -heap, -1 << 31, -1 << 32, -1<<32 + 3, -1 << 62, -1<<62 + 3, -greatest, least + 11, least + 10, least + 3, least + 1, least}
}

// letters makes n bytes, of which none is as those near it.
func letters(n int) []byte {
	out := make([]byte, n)
	for i := range out {
		out[i] = byte(i*i + 3*i + 77)
	}
	return out
}

// all are all that a byte can be.
func all() []byte {
	out := make([]byte, 256)
	for b := range out {
		out[b] = byte(b)
	}
	return out
}

func checkGet(t *testing.T, mem string, at int, want byte, ok bool) {
	t.Helper()
	if got, yes := Get([]byte(mem), at); got != want || yes != ok {
		t.Errorf("Get(%q, %d): %d, %v, not %d, %v", mem, at, got, yes, want, ok)
	}
}

// put is what Put is asked, and what it tells.
type put struct {
	at   int
	b    byte
	want string
	ok   bool
}

func checkPuts(t *testing.T, mem string, l []put) {
	t.Helper()
	for _, x := range l {
		if got, ok := Put([]byte(mem), x.at, x.b); string(got) != x.want || ok != x.ok {
			t.Errorf("Put(%q, %d, %d): %q, %v, not %q, %v", mem, x.at, x.b, got, ok, x.want, x.ok)
		}
	}
}

// zero is what Zero is asked, and what it tells.
type zero struct {
	at, n int
	want  string
	ok    bool
}

func checkZeros(t *testing.T, mem string, l []zero) {
	t.Helper()
	for _, x := range l {
		if got, ok := Zero([]byte(mem), x.at, x.n); string(got) != x.want || ok != x.ok {
			t.Errorf("Zero(%q, %d, %d): %q, %v, not %q, %v", mem, x.at, x.n, got, ok, x.want, x.ok)
		}
	}
}

// move is what Move is asked, and what it tells.
type move struct {
	from, to, n int
	want        string
	ok          bool
}

func checkMoves(t *testing.T, mem string, l []move) {
	t.Helper()
	for _, x := range l {
		if got, ok := Move([]byte(mem), x.from, x.to, x.n); string(got) != x.want || ok != x.ok {
			t.Errorf("Move(%q, %d, %d, %d): %q, %v, not %q, %v", mem, x.from, x.to, x.n, got, ok, x.want, x.ok)
		}
	}
}

// P15.1: the chapter's example: what is moved from 0 to 1, of no byte nothing, is as it was.
func TestExample(t *testing.T) {
	checkMoves(t, ten, []move{{0, 1, 0, ten, true}, {0, 1, 1, "aacdefghij", true}, {0, 1, 9, "aabcdefghi", true}})
	checkMoves(t, "a", []move{{0, 1, 0, "a", true}})
}

// P15.1: Get of the first byte, of one between, of the last one, and just behind all and ahead of all.
func TestGet(t *testing.T) {
	for at := range len(ten) {
		checkGet(t, ten, at, ten[at], true)
	}
	for _, at := range []int{10, 11, 12, 20, 256, heap, -1, -2} {
		checkGet(t, ten, at, 0, false)
	}
	checkGet(t, "a", 0, 'a', true)
	checkGet(t, "a", 1, 0, false)
	checkGet(t, "a", -1, 0, false)
}

// P15.1: Get of all that a byte can be: of a 0, too, it tells that it is there.
func TestGetOfAllBytes(t *testing.T) {
	mem := string(all())
	for b := range 256 {
		checkGet(t, mem, b, byte(b), true)
	}
	checkGet(t, mem, 256, 0, false)
	checkGet(t, "\x00", 0, 0, true)
}

// P15.1: Put at the first byte, in the middle, at the last one, and just behind all and ahead of all.
func TestPut(t *testing.T) {
	checkPuts(t, ten, []put{
		{0, 'X', "Xbcdefghij", true}, {1, 'X', "aXcdefghij", true}, {4, 'X', "abcdXfghij", true}, {8, 'X', "abcdefghXj", true}, {9, 'X', "abcdefghiX", true},
		{10, 'X', ten, false}, {11, 'X', ten, false}, {heap, 'X', ten, false}, {-1, 'X', ten, false}, {-2, 'X', ten, false},
	})
	checkPuts(t, "a", []put{{0, 'X', "X", true}, {1, 'X', "a", false}, {-1, 'X', "a", false}})
}

// P15.1: Put of what stands there already leaves all as it was, and is no fault.
func TestPutOfWhatStandsThere(t *testing.T) {
	for at := range len(ten) {
		checkPuts(t, ten, []put{{at, ten[at], ten, true}})
	}
}

// P15.1: Put of all that a byte can be over all that one can be; all others stay.
func TestPutOfAllBytes(t *testing.T) {
	mem := all()
	for at := range 256 {
		for b := range 256 {
			got, ok := Put(mem, at, byte(b))
			if !ok || len(got) != 256 || got[at] != byte(b) || !bytes.Equal(got[:at], mem[:at]) || !bytes.Equal(got[at+1:], mem[at+1:]) {
				t.Fatalf("Put of %d at %d: %q, %v", b, at, got, ok)
			}
		}
	}
}

// P15.1: Get of what was Put; the one that was Put last; others stay.
func TestGetOfWhatWasPut(t *testing.T) {
	mem := letters(20)
	want := letters(20)
	for i := range 200 {
		at, b := i*7%20, byte(i*13)
		mem, _ = Put(mem, at, b)
		want[at] = b
		for j := range want {
			if got, ok := Get(mem, j); got != want[j] || !ok {
				t.Fatalf("byte %d behind Put %d: %d, %v, not %d", j, i, got, ok, want[j])
			}
		}
	}
}

// P15.1: Get and Put of numbers below 0, and as great and as small as an int can be.
func TestNoSuchByte(t *testing.T) {
	for _, at := range append(belowNought(), 10, 11, heap, 1<<31, 1<<32, 1<<32+3, 1<<62, 1<<62+3, greatest-10, greatest-1, greatest) {
		checkGet(t, ten, at, 0, false)
		checkPuts(t, ten, []put{{at, 'X', ten, false}, {at, 0, ten, false}})
	}
}

// P15.1: Zero of no byte, of one, of some, of all, at the beginning, in the middle, at the end.
func TestZero(t *testing.T) {
	checkZeros(t, ten, []zero{
		{0, 1, "\x00bcdefghij", true}, {0, 2, "\x00\x00cdefghij", true}, {0, 9, "\x00\x00\x00\x00\x00\x00\x00\x00\x00j", true}, {0, 10, "\x00\x00\x00\x00\x00\x00\x00\x00\x00\x00", true},
		{4, 1, "abcd\x00fghij", true}, {4, 2, "abcd\x00\x00ghij", true}, {3, 4, "abc\x00\x00\x00\x00hij", true}, {1, 8, "a\x00\x00\x00\x00\x00\x00\x00\x00j", true},
		{9, 1, "abcdefghi\x00", true}, {8, 2, "abcdefgh\x00\x00", true}, {1, 9, "a\x00\x00\x00\x00\x00\x00\x00\x00\x00", true},
	})
	checkZeros(t, "a", []zero{{0, 1, "\x00", true}, {0, 0, "a", true}, {1, 0, "a", true}, {1, 1, "a", false}, {0, 2, "a", false}, {2, 0, "a", false}})
}

// P15.1: Zero of no byte leaves all as it was wherever there could be one, at mem's length, too, and no farther.
func TestZeroOfNoByte(t *testing.T) {
	for at := 0; at <= len(ten); at++ {
		checkZeros(t, ten, []zero{{at, 0, ten, true}})
	}
	checkZeros(t, ten, []zero{{11, 0, ten, false}, {12, 0, ten, false}, {greatest, 0, ten, false}, {-1, 0, ten, false}, {least, 0, ten, false}})
}

// P15.1: Zero of noughts, and of all that a byte can be.
func TestZeroOfAllBytes(t *testing.T) {
	checkZeros(t, "\x00\x00\x00", []zero{{0, 3, "\x00\x00\x00", true}, {1, 1, "\x00\x00\x00", true}})
	for at := range 257 {
		for _, n := range []int{0, 1, 2, 100, 256 - at} {
			want := all()
			if at+n <= 256 {
				copy(want[at:], make([]byte, n))
			}
			got, ok := Zero(all(), at, n)
			if ok != (at+n <= 256) || !bytes.Equal(got, want) {
				t.Fatalf("Zero at %d of %d: %q, %v", at, n, got, ok)
			}
		}
	}
}

// P15.1: Zero of so many that they are not there, by one and by more.
func TestZeroOfTooMany(t *testing.T) {
	checkZeros(t, ten, []zero{
		{0, 11, ten, false}, {1, 10, ten, false}, {5, 6, ten, false}, {9, 2, ten, false}, {10, 1, ten, false}, {11, 1, ten, false}, {0, 12, ten, false}, {9, 10, ten, false}, {10, 10, ten, false}, {0, heap, ten, false},
		{0, greatest, ten, false}, {1, greatest, ten, false}, {10, greatest, ten, false}, {greatest, 1, ten, false}, {greatest, greatest, ten, false}, {greatest, 0, ten, false}, {greatest - 3, 8, ten, false}, {8, greatest - 3, ten, false}, {1 << 62, 1 << 62, ten, false}, {1 << 32, 1, ten, false}, {1, 1 << 32, ten, false}, {1<<32 + 1, 1, ten, false},
	})
}

// P15.1: Zero at a number below 0, of a number below 0, and of both, also where their sum is one that is there.
func TestZeroBelowNought(t *testing.T) {
	for _, below := range belowNought() {
		for _, other := range append(numbers(), below, -below) {
			checkZeros(t, ten, []zero{{below, other, ten, false}, {other, below, ten, false}})
		}
	}
}

// P15.1: Move up and down, of bytes that lie apart and side by side, to and from the beginning and the end.
func TestMoveApart(t *testing.T) {
	checkMoves(t, ten, []move{
		{0, 9, 1, "abcdefghia", true}, {9, 0, 1, "jbcdefghij", true}, {3, 7, 1, "abcdefgdij", true}, {7, 3, 1, "abchefghij", true},
		{0, 7, 3, "abcdefgabc", true}, {7, 0, 3, "hijdefghij", true}, {1, 6, 3, "abcdefbcdj", true}, {6, 1, 3, "aghiefghij", true},
		{0, 1, 1, "aacdefghij", true}, {1, 0, 1, "bbcdefghij", true}, {8, 9, 1, "abcdefghii", true}, {9, 8, 1, "abcdefghjj", true},
		{0, 5, 5, "abcdeabcde", true}, {5, 0, 5, "fghijfghij", true}, {2, 5, 3, "abcdecdeij", true}, {5, 2, 3, "abfghfghij", true}, {4, 7, 3, "abcdefgefg", true}, {3, 0, 3, "defdefghij", true},
	})
	checkMoves(t, "ab", []move{{0, 1, 1, "aa", true}, {1, 0, 1, "bb", true}})
}

// P15.1: Move of bytes that lie over one another, up and down, by one byte, by some, and by all but one: what is moved is whole.
func TestMoveOver(t *testing.T) {
	checkMoves(t, ten, []move{
		{0, 1, 9, "aabcdefghi", true}, {1, 0, 9, "bcdefghijj", true}, {0, 1, 2, "aabdefghij", true}, {1, 0, 2, "bccdefghij", true}, {3, 4, 4, "abcddefgij", true}, {4, 3, 4, "abcefghhij", true},
		{0, 4, 5, "abcdabcdej", true}, {4, 0, 5, "efghifghij", true}, {1, 5, 5, "abcdebcdef", true}, {5, 1, 5, "afghijghij", true},
		{0, 2, 8, "ababcdefgh", true}, {2, 0, 8, "cdefghijij", true}, {0, 3, 6, "abcabcdefj", true}, {3, 0, 6, "defghighij", true}, {2, 4, 5, "abcdcdefgj", true}, {4, 2, 5, "abefghihij", true},
		{0, 4, 6, "abcdabcdef", true}, {4, 0, 6, "efghijghij", true},
	})
}

// P15.1: Move to where they are leaves all as it was: of no byte, of one, of some, of all.
func TestMoveToWhereTheyAre(t *testing.T) {
	for at := 0; at <= len(ten); at++ {
		for n := 0; n <= len(ten)-at; n++ {
			checkMoves(t, ten, []move{{at, at, n, ten, true}})
		}
		checkMoves(t, ten, []move{{at, at, len(ten) - at + 1, ten, false}, {at, at, -1, ten, false}})
	}
}

// P15.1: Move of no byte leaves all as it was wherever there could be one, from and to mem's length, too, and no farther.
func TestMoveOfNoByte(t *testing.T) {
	for from := 0; from <= len(ten); from++ {
		for to := 0; to <= len(ten); to++ {
			checkMoves(t, ten, []move{{from, to, 0, ten, true}})
		}
		for _, beyond := range append(belowNought(), 11, 12, heap, 1<<32, greatest) {
			checkMoves(t, ten, []move{{from, beyond, 0, ten, false}, {beyond, from, 0, ten, false}, {beyond, beyond, 0, ten, false}})
		}
	}
}

// P15.1: Move of all there is goes to where it is alone.
func TestMoveOfAll(t *testing.T) {
	checkMoves(t, ten, []move{{0, 0, 10, ten, true}, {0, 1, 10, ten, false}, {1, 0, 10, ten, false}, {1, 1, 10, ten, false}, {0, 0, 11, ten, false}, {0, 10, 10, ten, false}, {10, 0, 10, ten, false}})
	checkMoves(t, "a", []move{{0, 0, 1, "a", true}, {0, 1, 1, "a", false}, {1, 0, 1, "a", false}, {1, 1, 1, "a", false}, {1, 1, 0, "a", true}, {0, 0, 2, "a", false}})
}

// P15.1: Move of so many that they are not there, by one and by more, from from on alone, from to on alone, from both.
func TestMoveOfTooMany(t *testing.T) {
	checkMoves(t, ten, []move{
		{6, 0, 5, ten, false}, {9, 0, 2, ten, false}, {10, 0, 1, ten, false}, {1, 0, 10, ten, false}, {11, 0, 1, ten, false}, {9, 5, 5, ten, false}, {10, 5, 5, ten, false},
		{0, 6, 5, ten, false}, {0, 9, 2, ten, false}, {0, 10, 1, ten, false}, {0, 1, 10, ten, false}, {0, 11, 1, ten, false}, {5, 9, 5, ten, false}, {5, 10, 5, ten, false},
		{6, 6, 5, ten, false}, {6, 7, 5, ten, false}, {7, 6, 5, ten, false}, {10, 10, 1, ten, false}, {11, 11, 1, ten, false}, {9, 9, 2, ten, false}, {0, 0, 11, ten, false}, {0, 0, heap, ten, false},
		{0, 1, greatest, ten, false}, {1, 0, greatest, ten, false}, {10, 10, greatest, ten, false}, {0, 0, greatest, ten, false}, {greatest, 0, 1, ten, false}, {0, greatest, 1, ten, false}, {greatest, greatest, 1, ten, false}, {greatest, greatest, greatest, ten, false},
		{greatest - 3, 0, 8, ten, false}, {0, greatest - 3, 8, ten, false}, {8, 0, greatest - 3, ten, false}, {0, 8, greatest - 3, ten, false}, {1 << 62, 0, 1 << 62, ten, false}, {0, 1 << 62, 1 << 62, ten, false}, {1 << 32, 0, 1, ten, false}, {0, 1 << 32, 1, ten, false}, {1<<32 + 1, 1<<32 + 2, 1, ten, false}, {0, 1, 1<<32 + 1, ten, false},
	})
}

// P15.1: Move from a number below 0, to one, of one, and of some of them, also where their sum is one that is there.
func TestMoveBelowNought(t *testing.T) {
	for _, below := range belowNought() {
		for _, other := range append(numbers(), below, -below) {
			checkMoves(t, ten, []move{
				{below, 0, other, ten, false}, {0, below, other, ten, false}, {below, other, 1, ten, false}, {other, below, 1, ten, false}, {below, other, 0, ten, false}, {other, below, 0, ten, false},
				{other, 0, below, ten, false}, {0, other, below, ten, false}, {other, other, below, ten, false}, {below, below, other, ten, false}, {below, other, below, ten, false}, {other, below, below, ten, false},
			})
		}
	}
}

// P15.1: where nothing is there, there is no byte, and no byte is zeroed and moved at 0 alone. R3: nil and an empty list are one.
func TestOfNothing(t *testing.T) {
	for _, mem := range [][]byte{nil, {}, make([]byte, 0, 9)} {
		for _, at := range numbers() {
			if b, ok := Get(mem, at); b != 0 || ok {
				t.Errorf("Get at %d of nothing: %d, %v", at, b, ok)
			}
			if got, ok := Put(mem, at, 'X'); len(got) != 0 || ok {
				t.Errorf("Put at %d of nothing: %q, %v", at, got, ok)
			}
			for _, n := range numbers() {
				if got, ok := Zero(mem, at, n); len(got) != 0 || ok != (at == 0 && n == 0) {
					t.Errorf("Zero at %d of %d of nothing: %q, %v", at, n, got, ok)
				}
				for _, to := range []int{-1, 0, 1, at, n, greatest, least} {
					if got, ok := Move(mem, at, to, n); len(got) != 0 || ok != (at == 0 && to == 0 && n == 0) {
						t.Errorf("Move from %d to %d of %d of nothing: %q, %v", at, to, n, got, ok)
					}
				}
			}
		}
	}
}

// there says once more which bytes there are, one by one: those from at on, and if there are n of them. No number is added up that could run over.
func there(mem []byte, at, n int) bool {
	if at < 0 || n < 0 || at > len(mem) {
		return false
	}
	for range len(mem) - at {
		if n == 0 {
			return true
		}
		n--
	}
	return n == 0
}

// plainZero says the promise once more, byte by byte.
func plainZero(mem []byte, at, n int) ([]byte, bool) {
	out := bytes.Clone(mem)
	if !there(mem, at, n) {
		return out, false
	}
	for i := range n {
		out[at+i] = 0
	}
	return out, true
}

// plainMove says the promise once more, byte by byte, from what was there ahead of all.
func plainMove(mem []byte, from, to, n int) ([]byte, bool) {
	out := bytes.Clone(mem)
	if !there(mem, from, n) || !there(mem, to, n) {
		return out, false
	}
	for i := range n {
		out[to+i] = mem[from+i]
	}
	return out, true
}

// checkAll holds all calls of these numbers against the promise said once more.
func checkAll(t *testing.T, mem []byte, from, to, n int) {
	t.Helper()
	is := from >= 0 && from < len(mem)
	var want byte
	changed := bytes.Clone(mem)
	if is {
		want = mem[from]
		changed[from] = byte(to)
	}
	if got, ok := Get(mem, from); got != want || ok != is {
		t.Fatalf("Get(%q, %d): %d, %v", mem, from, got, ok)
	}
	if got, ok := Put(mem, from, byte(to)); !bytes.Equal(got, changed) || ok != is {
		t.Fatalf("Put(%q, %d, %d): %q, %v", mem, from, byte(to), got, ok)
	}
	zeroed, is := plainZero(mem, from, n)
	if got, ok := Zero(mem, from, n); !bytes.Equal(got, zeroed) || ok != is {
		t.Fatalf("Zero(%q, %d, %d): %q, %v", mem, from, n, got, ok)
	}
	moved, is := plainMove(mem, from, to, n)
	if got, ok := Move(mem, from, to, n); !bytes.Equal(got, moved) || ok != is {
		t.Fatalf("Move(%q, %d, %d, %d): %q, %v", mem, from, to, n, got, ok)
	}
}

// P15.1: of up to twelve bytes all calls are as the promise has them, at all places and of all counts, and beyond.
func TestAsSaidPlainly(t *testing.T) {
	for size := range 13 {
		mem := letters(size)
		for from := -2; from <= size+2; from++ {
			for to := -2; to <= size+2; to++ {
				for n := -2; n <= size+2; n++ {
					checkAll(t, mem, from, to, n)
				}
			}
		}
	}
}

// P15.1: R1: numbers as great and as small as an int can be, and all between: no call panics, and each ends, and tells what the promise has.
func TestOfGreatNumbers(t *testing.T) {
	for _, mem := range [][]byte{letters(1), letters(10), letters(300)} {
		for _, from := range numbers() {
			for _, to := range numbers() {
				for _, n := range numbers() {
					checkAll(t, mem, from, to, n)
				}
			}
		}
	}
}

// P15.1: of as many bytes as a heap can have, one fewer and more, all calls are as the promise has them.
func TestOfManyBytes(t *testing.T) {
	for _, size := range []int{heap - 1, heap, heap + 1} {
		mem := letters(size)
		places := []int{0, 1, 255, 256, 257, heap / 2, size - 257, size - 1, size, size + 1}
		for _, from := range places {
			for _, to := range places {
				for _, n := range []int{0, 1, 256, heap / 2, size - 257, size - 1, size, size + 1} {
					checkAll(t, mem, from, to, n)
				}
			}
		}
	}
}

// P15.1: what is moved is whole: moved away and back it is as it was, byte by byte, however near these lie.
func TestThereAndBack(t *testing.T) {
	mem := letters(40)
	for from := range 20 {
		for to := range 20 {
			for n := range 21 {
				moved, _ := Move(mem, from, to, n)
				back, ok := Move(moved, to, from, n)
				if !ok || !bytes.Equal(moved[to:to+n], mem[from:from+n]) || !bytes.Equal(back[from:from+n], mem[from:from+n]) {
					t.Fatalf("%d bytes from %d to %d and back: %q, %q", n, from, to, moved, back)
				}
			}
		}
	}
}

// P15.1: Zero and Move of the same once more leave all as it was, but where what is moved lies over where it was.
func TestTwice(t *testing.T) {
	mem := letters(20)
	for at := range 21 {
		for n := range 21 - at {
			once, _ := Zero(mem, at, n)
			if twice, ok := Zero(once, at, n); !ok || !bytes.Equal(twice, once) {
				t.Errorf("Zero at %d of %d twice: %q", at, n, twice)
			}
			if at >= n {
				once, _ = Move(mem, 0, at, n)
				if twice, ok := Move(once, 0, at, n); !ok || !bytes.Equal(twice, once) {
					t.Errorf("Move from 0 to %d of %d twice: %q", at, n, twice)
				}
			}
		}
	}
}

// ask is what all calls are asked, of ten bytes.
type ask struct{ from, to, n int }

// asks are such as are there, of no byte, apart, over one another and where they are, and wrong ones.
func asks() []ask {
	return []ask{{0, 5, 3}, {5, 0, 3}, {0, 1, 9}, {1, 0, 9}, {0, 0, 10}, {3, 3, 4}, {0, 1, 0}, {10, 10, 0}, {4, 10, 0}, {9, 0, 1}, {9, 9, 1}, {0, 1, 10}, {10, 0, 1}, {0, 11, 0}, {11, 0, 0}, {-1, 0, 1}, {0, -1, 1}, {0, 0, -1}, {greatest, greatest, greatest}, {least, least, least}}
}

// told are the bytes that Put, Zero and Move tell of what is asked.
func told(mem []byte, x ask) [][]byte {
	put, _ := Put(mem, x.from, 'X')
	zeroed, _ := Zero(mem, x.from, x.n)
	moved, _ := Move(mem, x.from, x.to, x.n)
	return [][]byte{put, zeroed, moved}
}

// R3: what is handed in is not changed, its spare room neither.
func TestNotChanged(t *testing.T) {
	for _, x := range asks() {
		room := []byte("abcdefghijklmnopqrstuvwxyz")
		for _, mem := range [][]byte{room[:10], room[3:13:15], room[5:15], room[:0], room} {
			Get(mem, x.from)
			told(mem, x)
			if string(room) != "abcdefghijklmnopqrstuvwxyz" {
				t.Fatalf("%v: %q", x, room)
			}
		}
	}
}

// P15.1: spare room is not there: no byte of it is told, changed, zeroed or moved.
func TestSpareRoomIsNotThere(t *testing.T) {
	room := []byte("abcdefghijklmnopqrstuvwxyz")
	for from := 8; from <= 27; from++ {
		for to := range 12 {
			for n := range 4 {
				checkAll(t, room[:10], from, to, n)
				checkAll(t, room[:10], to, from, n)
				checkAll(t, room[5:15], from, to, n)
			}
		}
	}
}

// R3: what is told is new memory, also beside a no and where nothing is changed: whoever changes or grows it changes neither what was handed in nor what was told otherwise.
func TestNewMemory(t *testing.T) {
	for _, x := range asks() {
		room := []byte("abcdefghijklmnopqrstuvwxyz")
		first, second := told(room[:10], x), told(room[:10], x)
		for i := range first {
			want := bytes.Clone(second[i])
			for j := range first[i] {
				first[i][j] ^= 255
			}
			_ = append(first[i], "0123456789012345"...)
			if string(room) != "abcdefghijklmnopqrstuvwxyz" || !bytes.Equal(second[i], want) {
				t.Errorf("%v, call %d: %q, %q", x, i, room, second[i])
			}
		}
	}
}

// R3: what is handed in is not kept: what was told stays, and what is told later hangs on what is handed in then.
func TestNothingKept(t *testing.T) {
	for _, x := range asks() {
		mem := letters(10)
		got := told(mem, x)
		want := told(letters(10), x)
		for i := range mem {
			mem[i] ^= 255
		}
		for i := range got {
			if !bytes.Equal(got[i], want[i]) {
				t.Errorf("%v, call %d: %q, not %q", x, i, got[i], want[i])
			}
		}
		checkAll(t, mem, x.from, x.to, x.n)
	}
}

// R4: the same is told again, whatever was asked between.
func TestTheSameAgain(t *testing.T) {
	for _, x := range asks() {
		want := told(letters(10), x)
		told(letters(40), ask{7, 9, 20})
		Get(letters(3), 1)
		for i, got := range told(letters(10), x) {
			if !bytes.Equal(got, want[i]) {
				t.Errorf("%v, call %d: %q, then %q", x, i, want[i], got)
			}
		}
	}
}
