package span

import (
	"slices"
	"testing"

	"hodman/api"
)

const (
	greatest = 1<<63 - 1
	least    = -1 << 63
	far      = 1099511627776 // 2^40, written out, so that the package's own number is held against it
)

// of makes pieces of pairs of At and N.
func of(numbers ...int) []api.Span {
	var out []api.Span
	for i := 0; i < len(numbers); i += 2 {
		out = append(out, api.Span{At: numbers[i], N: numbers[i+1]})
	}
	return out
}

// P8.1: May of no piece, of one, of pieces that end where the next one begins, and ahead of it, and one past it.
func TestMayOfMany(t *testing.T) {
	for _, x := range []struct {
		l    []api.Span
		want bool
	}{
		{nil, true}, {[]api.Span{}, true},
		{of(0, 1), true}, {of(5, 7), true},
		{of(0, 2, 2, 3), true}, {of(0, 2, 3, 3), true}, {of(0, 2, 1, 3), false},
		{of(3, 4, 7, 1), true}, {of(3, 4, 8, 1), true}, {of(3, 4, 6, 1), false}, {of(3, 4, 3, 1), false}, {of(3, 4, 3, 4), false},
		{of(0, 1, 1, 1, 2, 1), true}, {of(0, 1, 1, 2, 2, 1), false}, {of(0, 3, 1, 1, 3, 1), false}, {of(0, 2, 4, 2, 9, 1), true},
		{of(5, 1, 2, 1), false}, {of(2, 1, 5, 1), true}, {of(0, 1, 9, 1, 4, 1), false}, {of(4, 1, 0, 1, 9, 1), false}, {of(4, 2, 2, 2), false},
		{of(0, far-1, far-1, 1), true}, {of(0, far-1, far-1, 2), false}, {of(0, far, far, 1), false}, {of(0, far, far-1, 1), false},
	} {
		if got := May(x.l); got != x.want {
			t.Errorf("May(%v): %v", x.l, got)
		}
	}
}

// byThemselves are pieces and if they may be, at the edges of N, of At and of both together.
var byThemselves = []struct {
	s    api.Span
	want bool
}{
	{api.Span{At: 0, N: 1}, true}, {api.Span{At: 0, N: 0}, false}, {api.Span{At: 0, N: -1}, false}, {api.Span{At: 7, N: 1}, true}, {api.Span{At: 7, N: 0}, false}, {api.Span{At: 7, N: -1}, false}, {api.Span{At: 7, N: -7}, false}, {api.Span{At: 7, N: -8}, false},
	{api.Span{At: 0, N: 5}, true}, {api.Span{At: -1, N: 5}, false}, {api.Span{At: -1, N: 1}, false}, {api.Span{At: -5, N: 2}, false}, {api.Span{At: -1, N: 0}, false}, {api.Span{At: -1, N: -1}, false},
	{api.Span{At: 0, N: far}, true}, {api.Span{At: 0, N: far + 1}, false}, {api.Span{At: 0, N: far - 1}, true},
	{api.Span{At: far - 1, N: 1}, true}, {api.Span{At: far, N: 1}, false}, {api.Span{At: far - 2, N: 1}, true}, {api.Span{At: far, N: 0}, false}, {api.Span{At: far + 1, N: 1}, false}, {api.Span{At: far + 1, N: -1}, false},
	{api.Span{At: 1, N: far - 1}, true}, {api.Span{At: 1, N: far}, false}, {api.Span{At: far / 2, N: far / 2}, true}, {api.Span{At: far / 2, N: far/2 + 1}, false}, {api.Span{At: far/2 + 1, N: far / 2}, false}, {api.Span{At: 1000, N: far - 1000}, true}, {api.Span{At: 1001, N: far - 1000}, false},
	{api.Span{At: -1, N: far + 1}, false}, {api.Span{At: -1, N: far}, false}, {api.Span{At: -far, N: far}, false},
	{api.Span{At: 0, N: greatest}, false}, {api.Span{At: 1, N: greatest}, false}, {api.Span{At: greatest, N: 1}, false}, {api.Span{At: greatest, N: 0}, false}, {api.Span{At: greatest, N: greatest}, false}, {api.Span{At: greatest - 1, N: 1}, false},
	{api.Span{At: 0, N: least}, false}, {api.Span{At: least, N: 1}, false}, {api.Span{At: least, N: least}, false}, {api.Span{At: least, N: greatest}, false}, {api.Span{At: greatest, N: least}, false}, {api.Span{At: 1 << 62, N: 1 << 62}, false}, {api.Span{At: -1, N: least}, false}, {api.Span{At: 5, N: least}, false},
}

// P8.1: May of one piece, first and last of many too, and Put of it into none.
func TestByThemselves(t *testing.T) {
	for _, x := range byThemselves {
		one := []api.Span{x.s}
		if got := May(one); got != x.want {
			t.Errorf("May(%v): %v", one, got)
		}
		if x.want {
			continue
		}
		if May(append(of(0, 1), x.s)) || May(append(one, api.Span{At: far - 1, N: 1})) {
			t.Errorf("%v among others may be", x.s)
		}
	}
}

// P8.1, R2: Put into no pieces; what may not be by itself is a no, and beside it the pieces are as they were.
func TestPutByItself(t *testing.T) {
	for _, x := range byThemselves {
		for _, l := range [][]api.Span{nil, {}} {
			got, ok := Put(l, x.s)
			if ok != x.want || ok && !slices.Equal(got, []api.Span{x.s}) || !ok && len(got) != 0 {
				t.Errorf("Put(%v, %v): %v %v", l, x.s, got, ok)
			}
		}
		if x.want {
			continue
		}
		l := of(2, 2, 6, 4)
		if got, ok := Put(l, x.s); ok || !slices.Equal(got, l) {
			t.Errorf("Put(%v, %v): %v %v", l, x.s, got, ok)
		}
	}
}

// P8.1: Put ahead of all, behind all, between two, into gaps that it fills or that are too small; over others in all ways.
func TestPut(t *testing.T) {
	l := of(3, 2, 7, 4, 12, 1)
	for _, x := range []struct {
		at, n int
		want  []api.Span // nil: no
	}{
		{0, 1, of(0, 1, 3, 2, 7, 4, 12, 1)}, {1, 1, of(1, 1, 3, 2, 7, 4, 12, 1)}, {2, 1, of(2, 1, 3, 2, 7, 4, 12, 1)}, {0, 3, of(0, 3, 3, 2, 7, 4, 12, 1)}, {0, 4, nil}, {1, 3, nil}, {2, 2, nil},
		{13, 1, of(3, 2, 7, 4, 12, 1, 13, 1)}, {13, 9, of(3, 2, 7, 4, 12, 1, 13, 9)}, {14, 1, of(3, 2, 7, 4, 12, 1, 14, 1)}, {99, 1, of(3, 2, 7, 4, 12, 1, 99, 1)}, {13, far - 13, of(3, 2, 7, 4, 12, 1, 13, far-13)}, {13, far - 12, nil}, {far - 1, 1, of(3, 2, 7, 4, 12, 1, far-1, 1)},
		{5, 2, of(3, 2, 5, 2, 7, 4, 12, 1)}, {5, 1, of(3, 2, 5, 1, 7, 4, 12, 1)}, {6, 1, of(3, 2, 6, 1, 7, 4, 12, 1)}, {5, 3, nil}, {4, 3, nil}, {4, 2, nil}, {6, 2, nil}, {4, 4, nil},
		{11, 1, of(3, 2, 7, 4, 11, 1, 12, 1)}, {11, 2, nil}, {10, 2, nil}, {10, 3, nil}, {10, 1, nil},
		{4, 1, nil}, {3, 1, nil}, {8, 1, nil}, {8, 2, nil}, {7, 3, nil}, {8, 3, nil},
		{3, 2, nil}, {7, 4, nil}, {12, 1, nil},
		{3, 3, nil}, {2, 4, nil}, {2, 3, nil}, {6, 6, nil}, {11, 3, nil}, {12, 2, nil}, {0, 99, nil}, {0, far, nil}, {3, 10, nil},
	} {
		got, ok := Put(l, api.Span{At: x.at, N: x.n})
		want := x.want
		if want == nil {
			want = l
		}
		if ok != (x.want != nil) || !slices.Equal(got, want) {
			t.Errorf("Put of %d, %d: %v %v", x.at, x.n, got, ok)
		}
	}
}

// P8.1: a piece as great as one can be leaves room for no other.
func TestPutBesideTheGreatest(t *testing.T) {
	for _, x := range [][2]int{{0, 1}, {far - 1, 1}, {0, far}, {far / 2, 7}, {far, 1}} {
		if got, ok := Put(of(0, far), api.Span{At: x[0], N: x[1]}); ok || !slices.Equal(got, of(0, far)) {
			t.Errorf("Put of %v: %v %v", x, got, ok)
		}
	}
	if got, ok := Put(of(1, far-2), api.Span{At: 0, N: 1}); !ok || !slices.Equal(got, of(0, 1, 1, far-2)) {
		t.Errorf("ahead: %v %v", got, ok)
	}
	if got, ok := Put(of(1, far-2), api.Span{At: far - 1, N: 1}); !ok || !slices.Equal(got, of(1, far-2, far-1, 1)) {
		t.Errorf("behind: %v %v", got, ok)
	}
}

// P8.1: Cut of the first, of the last, of one between, of the only one; where a piece lies but does not begin, where none lies, and at wrong inputs.
func TestCut(t *testing.T) {
	l := of(0, 2, 2, 3, 9, 1)
	for _, x := range []struct {
		l    []api.Span
		at   int
		want []api.Span
		s    api.Span
		ok   bool
	}{
		{l, 0, of(2, 3, 9, 1), api.Span{At: 0, N: 2}, true}, {l, 2, of(0, 2, 9, 1), api.Span{At: 2, N: 3}, true}, {l, 9, of(0, 2, 2, 3), api.Span{At: 9, N: 1}, true},
		{of(4, 4), 4, nil, api.Span{At: 4, N: 4}, true}, {of(0, 1), 0, nil, api.Span{At: 0, N: 1}, true}, {of(far-1, 1), far - 1, nil, api.Span{At: far - 1, N: 1}, true}, {of(0, far), 0, nil, api.Span{At: 0, N: far}, true},
		{l, 1, l, api.Span{}, false}, {l, 3, l, api.Span{}, false}, {l, 4, l, api.Span{}, false}, {l, 5, l, api.Span{}, false}, {l, 8, l, api.Span{}, false}, {l, 10, l, api.Span{}, false},
		{l, -1, l, api.Span{}, false}, {l, -2, l, api.Span{}, false}, {l, least, l, api.Span{}, false}, {l, least + 2, l, api.Span{}, false}, {l, greatest, l, api.Span{}, false}, {l, 1 << 32, l, api.Span{}, false}, {l, 1<<32 + 2, l, api.Span{}, false}, {l, far, l, api.Span{}, false},
		{nil, 0, nil, api.Span{}, false}, {nil, -1, nil, api.Span{}, false}, {nil, greatest, nil, api.Span{}, false}, {[]api.Span{}, 0, nil, api.Span{}, false},
	} {
		got, s, ok := Cut(x.l, x.at)
		if ok != x.ok || s != x.s || !slices.Equal(got, x.want) {
			t.Errorf("Cut(%v, %d): %v %v %v", x.l, x.at, got, s, ok)
		}
	}
}

// P8.1: Total and End of none, of one, of many.
func TestTotalAndEnd(t *testing.T) {
	for _, x := range []struct {
		l          []api.Span
		total, end int
	}{
		{nil, 0, 0}, {[]api.Span{}, 0, 0},
		{of(0, 1), 1, 1}, {of(0, 7), 7, 7}, {of(5, 1), 1, 6}, {of(5, 3), 3, 8}, {of(0, far), far, far}, {of(far-1, 1), 1, far}, {of(1, far-1), far - 1, far},
		{of(0, 2, 2, 3), 5, 5}, {of(2, 2, 6, 4), 6, 10}, {of(0, 2, 2, 3, 9, 1), 6, 10}, {of(0, 1, far-1, 1), 2, far}, {of(0, far-1, far-1, 1), far, far}, {of(1, 9, 20, 2, 30, 1), 12, 31},
	} {
		if total, end := Total(x.l), End(x.l); total != x.total || end != x.end {
			t.Errorf("%v: Total %d, End %d", x.l, total, end)
		}
	}
}

// P8.1: the chapter's example.
func TestExample(t *testing.T) {
	l := of(0, 2)
	if got, ok := Put(l, api.Span{At: 1, N: 2}); ok || !slices.Equal(got, l) {
		t.Errorf("%v %v", got, ok)
	}
}

// edge is how many bytes the small lists lie in.
const edge = 7

// all calls f with each list of pieces that may be and lies within edge bytes.
func all(f func(l []api.Span)) {
	var grow func(l []api.Span, from int)
	grow = func(l []api.Span, from int) {
		f(l)
		for at := from; at < edge; at++ {
			for n := 1; at+n <= edge; n++ {
				grow(append(slices.Clone(l), api.Span{At: at, N: n}), at+n)
			}
		}
	}
	grow(nil, 0)
}

// painted tells of each byte how many pieces lie over it.
func painted(l []api.Span) [edge + 4]int {
	var out [edge + 4]int
	for _, s := range l {
		for i := range s.N {
			out[s.At+i]++
		}
	}
	return out
}

// plainPut sorts s in where no byte has two pieces over it.
func plainPut(l []api.Span, s api.Span) ([]api.Span, bool) {
	if s.At < 0 || s.N < 1 {
		return l, false
	}
	out := append(slices.Clone(l), s)
	for _, many := range painted(out) {
		if many > 1 {
			return l, false
		}
	}
	slices.SortFunc(out, func(a, b api.Span) int { return a.At - b.At })
	return out, true
}

// P8.1: of all small lists, each Put and each Cut is as the promise says it byte by byte; what was put can be cut again, and what was cut put again.
func TestSmallAsSaidPlainly(t *testing.T) {
	lists := 0
	all(func(l []api.Span) {
		lists++
		if !May(l) {
			t.Fatalf("May(%v): no", l)
		}
		checkSums(t, l)
		for at := -2; at <= edge+1; at++ {
			for n := -2; n <= edge+2-max(at, 0); n++ {
				checkPut(t, l, api.Span{At: at, N: n})
			}
			checkCut(t, l, at)
		}
	})
	if lists < 600 {
		t.Errorf("only %d lists", lists)
	}
}

// checkSums also holds what follows: Total is at most End.
func checkSums(t *testing.T, l []api.Span) {
	t.Helper()
	total, end := 0, 0
	for i, many := range painted(l) {
		total += many
		if many > 0 {
			end = i + 1
		}
	}
	if Total(l) != total || End(l) != end || Total(l) > End(l) {
		t.Fatalf("%v: Total %d, End %d", l, Total(l), End(l))
	}
}

func checkPut(t *testing.T, l []api.Span, s api.Span) {
	t.Helper()
	want, may := plainPut(l, s)
	got, ok := Put(l, s)
	if ok != may || !slices.Equal(got, want) || !May(got) {
		t.Fatalf("Put(%v, %v): %v %v", l, s, got, ok)
	}
	if !ok {
		return
	}
	if back, cut, ok := Cut(got, s.At); !ok || cut != s || !slices.Equal(back, l) {
		t.Fatalf("Cut(%v, %d): %v %v %v", got, s.At, back, cut, ok)
	}
}

func checkCut(t *testing.T, l []api.Span, at int) {
	t.Helper()
	i := slices.IndexFunc(l, func(s api.Span) bool { return s.At == at })
	got, s, ok := Cut(l, at)
	if i < 0 {
		if ok || s != (api.Span{}) || !slices.Equal(got, l) {
			t.Fatalf("Cut(%v, %d): %v %v %v", l, at, got, s, ok)
		}
		return
	}
	if !ok || s != l[i] || !slices.Equal(got, slices.Delete(slices.Clone(l), i, i+1)) || !May(got) {
		t.Fatalf("Cut(%v, %d): %v %v %v", l, at, got, s, ok)
	}
	if back, ok := Put(got, s); !ok || !slices.Equal(back, l) {
		t.Fatalf("Put(%v, %v): %v %v", got, s, back, ok)
	}
}

// P8.1: all small pairs and triples of pieces: May is yes just where the one before ends at or ahead of each one's beginning.
func TestSmallMay(t *testing.T) {
	var pieces []api.Span
	for at := -1; at <= 4; at++ {
		for n := -1; n <= 3; n++ {
			pieces = append(pieces, api.Span{At: at, N: n})
		}
	}
	good := func(s api.Span) bool { return s.At >= 0 && s.N >= 1 }
	for _, a := range pieces {
		for _, b := range pieces {
			two := good(a) && good(b) && a.At+a.N <= b.At
			if got := May([]api.Span{a, b}); got != two {
				t.Fatalf("May(%v, %v): %v", a, b, got)
			}
			for _, c := range pieces {
				if got := May([]api.Span{a, b, c}); got != (two && good(c) && b.At+b.N <= c.At) {
					t.Fatalf("May(%v, %v, %v): %v", a, b, c, got)
				}
			}
		}
	}
}

// P8.1: many pieces, put in from the middle to both ends, and cut in another order.
func TestMany(t *testing.T) {
	const count = 401
	var l []api.Span
	for i := range count {
		s := api.Span{At: (i * 150 % count) * 3, N: i*150%count%3 + 1}
		got, ok := Put(l, s)
		if !ok || !May(got) || len(got) != i+1 {
			t.Fatalf("Put of %v: %v, %d pieces", s, ok, len(got))
		}
		l = got
	}
	for i, s := range l {
		if s != (api.Span{At: i * 3, N: i%3 + 1}) {
			t.Fatalf("piece %d is %v", i, s)
		}
	}
	for i := range count {
		at := (i * 220 % count) * 3
		got, s, ok := Cut(l, at)
		if !ok || s.At != at || s.N != at/3%3+1 || len(got) != count-1-i || !May(got) || Total(got) != Total(l)-s.N {
			t.Fatalf("Cut of %d: %v %v, %d pieces", at, s, ok, len(got))
		}
		l = got
	}
}

// oddLists are those that may not be: pieces that do not rise, that lie over one another, with wrong numbers and with those as great and as small as an int can be.
func oddLists() [][]api.Span {
	numbers := []int{least, least + 1, -far, -1, 0, 1, 2, far, far + 1, 1 << 62, greatest - 1, greatest}
	out := [][]api.Span{
		nil, {}, of(0, 2, 2, 3), of(5, 1, 2, 1), of(9, 1, 5, 1, 2, 1), of(0, 5, 0, 5, 0, 5), of(0, 3, 2, 3, 4, 3), of(4, 0, 4, 0), of(3, -3, 1, -1),
	}
	for _, at := range numbers {
		for _, n := range numbers {
			out = append(out, of(at, n), of(at, n, n, at), of(2, 2, at, n), of(at, n, 2, 2), of(at, n, at, n, at, n))
		}
	}
	return out
}

// R1, R2, R3, R4: no call panics, whatever it is handed; beside a no the list is as it was; nothing handed in is changed; the same is told again.
func TestOddListsEnd(t *testing.T) {
	numbers := []int{least, least + 1, -1, 0, 1, 2, 3, far - 1, far, 1 << 62, greatest - 1, greatest}
	for _, l := range oddLists() {
		was := slices.Clone(l)
		if May(l) != May(l) || Total(l) != Total(l) || End(l) != End(l) {
			t.Fatalf("%v: not told again", l)
		}
		for _, at := range numbers {
			got, s, ok := Cut(l, at)
			if !ok && (!slices.Equal(got, l) || s != (api.Span{})) || ok && len(got) != len(l)-1 {
				t.Fatalf("Cut(%v, %d): %v %v %v", l, at, got, s, ok)
			}
			for _, n := range numbers {
				s := api.Span{At: at, N: n}
				got, ok := Put(l, s)
				if !ok && !slices.Equal(got, l) || ok && (len(got) != len(l)+1 || !May([]api.Span{s})) {
					t.Fatalf("Put(%v, %v): %v %v", l, s, got, ok)
				}
			}
		}
		if !slices.Equal(l, was) {
			t.Fatalf("%v was changed to %v", was, l)
		}
	}
}

// R3: nil and an empty list are one, with spare room too.
func TestNilAndEmptyAreOne(t *testing.T) {
	for _, l := range [][]api.Span{nil, {}, of(0, 9, 9, 9)[:0]} {
		put, ok := Put(l, api.Span{At: 3, N: 1})
		no, wrong := Put(l, api.Span{})
		cut, s, found := Cut(l, 0)
		if !May(l) || Total(l) != 0 || End(l) != 0 || !ok || !slices.Equal(put, of(3, 1)) || wrong || len(no) != 0 || found || len(cut) != 0 || s != (api.Span{}) {
			t.Errorf("%#v: %v %v, %v %v, %v %v %v", l, put, ok, no, wrong, cut, s, found)
		}
	}
}

// R3: what is handed in is not changed, its spare room neither, and no answer shares memory with it.
func TestHandedInIsNotChanged(t *testing.T) {
	odd := api.Span{At: -7, N: -7}
	for i, call := range []func(l []api.Span) []api.Span{
		func(l []api.Span) []api.Span { May(l); Total(l); End(l); return nil },
		func(l []api.Span) []api.Span { out, _ := Put(l, api.Span{At: 0, N: 1}); return out },
		func(l []api.Span) []api.Span { out, _ := Put(l, api.Span{At: 5, N: 2}); return out },
		func(l []api.Span) []api.Span { out, _ := Put(l, api.Span{At: 20, N: 2}); return out },
		func(l []api.Span) []api.Span { out, _ := Put(l, api.Span{At: 3, N: 1}); return out },
		func(l []api.Span) []api.Span { out, _ := Put(l, api.Span{}); return out },
		func(l []api.Span) []api.Span { out, _, _ := Cut(l, 2); return out },
		func(l []api.Span) []api.Span { out, _, _ := Cut(l, 7); return out },
		func(l []api.Span) []api.Span { out, _, _ := Cut(l, 12); return out },
		func(l []api.Span) []api.Span { out, _, _ := Cut(l, 3); return out },
	} {
		whole := append(of(2, 3, 7, 4, 12, 1), odd, odd, odd)
		was := slices.Clone(whole)
		out := call(whole[:3])
		if !slices.Equal(whole, was) {
			t.Errorf("call %d changed it to %v", i, whole)
		}
		out = out[:cap(out)]
		for j := range out {
			out[j] = api.Span{At: -9, N: -9}
		}
		if !slices.Equal(whole, was) {
			t.Errorf("call %d: what it told shares memory: %v", i, whole)
		}
	}
}

// R3: what was told stays as it was, whatever is then done to the list that was handed in, or put into what was told.
func TestNothingIsKept(t *testing.T) {
	l := of(2, 3, 7, 4)
	put, _ := Put(l, api.Span{At: 20, N: 1})
	more, _ := Put(put, api.Span{At: 30, N: 1})
	other, _ := Put(put, api.Span{At: 40, N: 1})
	no, _ := Put(l, api.Span{At: 2, N: 1})
	l[0], l[1] = api.Span{}, api.Span{}
	if !slices.Equal(put, of(2, 3, 7, 4, 20, 1)) || !slices.Equal(more, of(2, 3, 7, 4, 20, 1, 30, 1)) || !slices.Equal(other, of(2, 3, 7, 4, 20, 1, 40, 1)) || !slices.Equal(no, of(2, 3, 7, 4)) {
		t.Errorf("%v, %v, %v, %v", put, more, other, no)
	}
}
