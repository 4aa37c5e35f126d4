package side

import (
	"slices"
	"testing"

	"hodman/api"
)

const (
	greatest = 1<<63 - 1
	least    = -1 << 63
)

// of makes marks of pairs of At and class.
func of(numbers ...int) []api.Mark {
	var out []api.Mark
	for i := 0; i < len(numbers); i += 2 {
		out = append(out, api.Mark{At: numbers[i], Class: numbers[i+1]})
	}
	return out
}

// P10.1: Put into none, ahead of all, behind all, between two, and in the place of the first, the last and one between, with the same class and with another.
func TestPut(t *testing.T) {
	l := of(2, 1, 4, 0, 8, 3)
	for _, x := range []struct {
		l         []api.Mark
		at, class int
		want      []api.Mark
	}{
		{nil, 0, 0, of(0, 0)}, {nil, 5, 2, of(5, 2)}, {[]api.Mark{}, 5, 2, of(5, 2)}, {nil, greatest, greatest, of(greatest, greatest)}, {nil, least, least, of(least, least)}, {nil, -1, -1, of(-1, -1)},
		{l, 0, 1, of(0, 1, 2, 1, 4, 0, 8, 3)}, {l, 1, 0, of(1, 0, 2, 1, 4, 0, 8, 3)}, {l, -1, 2, of(-1, 2, 2, 1, 4, 0, 8, 3)}, {l, -2, 2, of(-2, 2, 2, 1, 4, 0, 8, 3)}, {l, least, 2, of(least, 2, 2, 1, 4, 0, 8, 3)}, {l, least + 2, 7, of(least+2, 7, 2, 1, 4, 0, 8, 3)},
		{l, 9, 0, of(2, 1, 4, 0, 8, 3, 9, 0)}, {l, 99, 4, of(2, 1, 4, 0, 8, 3, 99, 4)}, {l, greatest, 4, of(2, 1, 4, 0, 8, 3, greatest, 4)}, {l, 1<<32 + 4, 4, of(2, 1, 4, 0, 8, 3, 1<<32+4, 4)},
		{l, 3, 0, of(2, 1, 3, 0, 4, 0, 8, 3)}, {l, 5, 0, of(2, 1, 4, 0, 5, 0, 8, 3)}, {l, 6, 1, of(2, 1, 4, 0, 6, 1, 8, 3)}, {l, 7, 9, of(2, 1, 4, 0, 7, 9, 8, 3)},
		{l, 2, 1, l}, {l, 4, 0, l}, {l, 8, 3, l},
		{l, 2, 0, of(2, 0, 4, 0, 8, 3)}, {l, 4, 7, of(2, 1, 4, 7, 8, 3)}, {l, 8, 0, of(2, 1, 4, 0, 8, 0)},
		{l, 2, -1, of(2, -1, 4, 0, 8, 3)}, {l, 4, greatest, of(2, 1, 4, greatest, 8, 3)}, {l, 8, least, of(2, 1, 4, 0, 8, least)},
		{of(7, 3), 7, 3, of(7, 3)}, {of(7, 3), 7, 4, of(7, 4)}, {of(7, 3), 6, 4, of(6, 4, 7, 3)}, {of(7, 3), 8, 4, of(7, 3, 8, 4)}, {of(0, 0), 0, 1, of(0, 1)},
		{of(least, 1, 0, 2, greatest, 3), least, 4, of(least, 4, 0, 2, greatest, 3)}, {of(least, 1, 0, 2, greatest, 3), greatest, 4, of(least, 1, 0, 2, greatest, 4)}, {of(least, 1, 0, 2, greatest, 3), -1, 4, of(least, 1, -1, 4, 0, 2, greatest, 3)}, {of(least, 1, 0, 2, greatest, 3), greatest - 1, 4, of(least, 1, 0, 2, greatest-1, 4, greatest, 3)}, {of(least, 1, 0, 2, greatest, 3), least + 1, 4, of(least, 1, least+1, 4, 0, 2, greatest, 3)},
	} {
		if got := Put(x.l, api.Mark{At: x.at, Class: x.class}); !slices.Equal(got, x.want) {
			t.Errorf("Put(%v, %d, %d): %v", x.l, x.at, x.class, got)
		}
	}
}

// P10.1, R2: Take and Class of the first, the last, one between and the only one; of such as are not there: ahead of all, behind all, between two, of no marks, at wrong inputs.
func TestTakeAndClass(t *testing.T) {
	l := of(2, 1, 4, 0, 8, 3)
	wide := of(least, 1, -1, least, 0, -2, greatest, greatest)
	for _, x := range []struct {
		l     []api.Mark
		at    int
		want  []api.Mark
		class int
		ok    bool
	}{
		{l, 2, of(4, 0, 8, 3), 1, true}, {l, 4, of(2, 1, 8, 3), 0, true}, {l, 8, of(2, 1, 4, 0), 3, true},
		{of(7, 3), 7, nil, 3, true}, {of(0, 0), 0, nil, 0, true}, {of(0, 5), 0, nil, 5, true}, {of(1, 2, 3, 4), 1, of(3, 4), 2, true}, {of(1, 2, 3, 4), 3, of(1, 2), 4, true},
		{l, 0, l, 0, false}, {l, 1, l, 0, false}, {l, -1, l, 0, false}, {l, -2, l, 0, false}, {l, least, l, 0, false}, {l, least + 2, l, 0, false},
		{l, 9, l, 0, false}, {l, 99, l, 0, false}, {l, greatest, l, 0, false}, {l, 1<<32 + 2, l, 0, false}, {l, 1<<32 + 4, l, 0, false},
		{l, 3, l, 0, false}, {l, 5, l, 0, false}, {l, 6, l, 0, false}, {l, 7, l, 0, false},
		{of(7, 3), 6, of(7, 3), 0, false}, {of(7, 3), 8, of(7, 3), 0, false}, {of(7, 3), 3, of(7, 3), 0, false}, {of(7, 3), 0, of(7, 3), 0, false},
		{nil, 0, nil, 0, false}, {nil, -1, nil, 0, false}, {nil, greatest, nil, 0, false}, {nil, least, nil, 0, false}, {[]api.Mark{}, 0, nil, 0, false},
		{wide, least, wide[1:], 1, true}, {wide, -1, of(least, 1, 0, -2, greatest, greatest), least, true}, {wide, 0, of(least, 1, -1, least, greatest, greatest), -2, true}, {wide, greatest, wide[:3], greatest, true}, {wide, least + 1, wide, 0, false}, {wide, greatest - 1, wide, 0, false}, {wide, 1, wide, 0, false}, {wide, -2, wide, 0, false},
	} {
		got, class, ok := Take(x.l, x.at)
		if ok != x.ok || class != x.class || !slices.Equal(got, x.want) {
			t.Errorf("Take(%v, %d): %v %d %v", x.l, x.at, got, class, ok)
		}
		if class, ok := Class(x.l, x.at); ok != x.ok || class != x.class {
			t.Errorf("Class(%v, %d): %d %v", x.l, x.at, class, ok)
		}
	}
}

// P10.1: the chapter's example: what was put is told by Class.
func TestExample(t *testing.T) {
	l := Put(nil, api.Mark{At: 16, Class: 4})
	if class, ok := Class(l, 16); class != 4 || !ok {
		t.Errorf("%d %v", class, ok)
	}
}

const (
	edge    = 6 // the small marks begin below it
	classes = 3 // and are of so many classes
)

// all calls f with each list of marks that rises below edge.
func all(f func(l []api.Mark)) {
	var grow func(l []api.Mark, from int)
	grow = func(l []api.Mark, from int) {
		f(l)
		for at := from; at < edge; at++ {
			for class := range classes {
				grow(append(slices.Clone(l), api.Mark{At: at, Class: class}), at+1)
			}
		}
	}
	grow(nil, 0)
}

// none stands in a table where no block begins.
const none = -99

// table tells of each At from -1 to edge which class begins there.
func table(l []api.Mark) [edge + 2]int {
	var out [edge + 2]int
	for i := range out {
		out[i] = none
	}
	for _, m := range l {
		out[m.At+1] = m.Class
	}
	return out
}

// listed tells a table's marks, rising.
func listed(of [edge + 2]int) []api.Mark {
	var out []api.Mark
	for i, class := range of {
		if class != none {
			out = append(out, api.Mark{At: i - 1, Class: class})
		}
	}
	return out
}

// P10.1: of all small lists, each Put, Take and Class is as a table has it that has a place for each beginning.
func TestSmallAsSaidPlainly(t *testing.T) {
	lists := 0
	all(func(l []api.Mark) {
		lists++
		for at := -1; at <= edge; at++ {
			checkTake(t, l, at)
			for class := -1; class <= classes; class++ {
				checkPut(t, l, api.Mark{At: at, Class: class})
			}
		}
	})
	if lists != 4096 {
		t.Errorf("%d lists", lists)
	}
}

// checkPut also holds that what was put is told, and that what was taken is gone.
func checkPut(t *testing.T, l []api.Mark, m api.Mark) {
	t.Helper()
	plain := table(l)
	plain[m.At+1] = m.Class
	got := Put(l, m)
	if !slices.Equal(got, listed(plain)) {
		t.Fatalf("Put(%v, %v): %v", l, m, got)
	}
	if class, ok := Class(got, m.At); class != m.Class || !ok {
		t.Fatalf("Class(%v, %d): %d %v", got, m.At, class, ok)
	}
	plain[m.At+1] = none
	if back, class, ok := Take(got, m.At); class != m.Class || !ok || !slices.Equal(back, listed(plain)) {
		t.Fatalf("Take(%v, %d): %v %d %v", got, m.At, back, class, ok)
	}
}

// checkTake also holds that what was taken is gone, is not taken twice, and may be put again.
func checkTake(t *testing.T, l []api.Mark, at int) {
	t.Helper()
	plain := table(l)
	want, there := plain[at+1], plain[at+1] != none
	if !there {
		want = 0
	}
	plain[at+1] = none
	got, class, ok := Take(l, at)
	if ok != there || class != want || !slices.Equal(got, listed(plain)) {
		t.Fatalf("Take(%v, %d): %v %d %v", l, at, got, class, ok)
	}
	if class, ok := Class(l, at); ok != there || class != want {
		t.Fatalf("Class(%v, %d): %d %v", l, at, class, ok)
	}
	if class, ok := Class(got, at); ok || class != 0 {
		t.Fatalf("Class(%v, %d): %d %v", got, at, class, ok)
	}
	if again, class, ok := Take(got, at); ok || class != 0 || !slices.Equal(again, got) {
		t.Fatalf("Take(%v, %d): %v %d %v", got, at, again, class, ok)
	}
	if !there {
		return
	}
	if back := Put(got, api.Mark{At: at, Class: want}); !slices.Equal(back, l) {
		t.Fatalf("Put(%v, %d, %d): %v", got, at, want, back)
	}
}

// P10.1: many marks, put in from both ends and the middle, some of them twice, and taken in another order.
func TestMany(t *testing.T) {
	const count = 401
	var l []api.Mark
	for i := range count {
		at := i * 150 % count
		l = Put(Put(l, api.Mark{At: at * 16, Class: 99}), api.Mark{At: at * 16, Class: at % 7})
		if len(l) != i+1 || !rises(l) {
			t.Fatalf("behind %d puts: %v", i+1, l)
		}
	}
	for i, m := range l {
		if m != (api.Mark{At: i * 16, Class: i % 7}) {
			t.Fatalf("mark %d is %v", i, m)
		}
	}
	for i := range count {
		at := i * 220 % count
		got, class, ok := Take(l, at*16)
		if !ok || class != at%7 || len(got) != count-1-i || !rises(got) {
			t.Fatalf("Take of %d: %d %v, %d marks", at*16, class, ok, len(got))
		}
		l = got
	}
}

// rises tells if each mark begins behind the one before: what follows: each beginning is one block's.
func rises(l []api.Mark) bool {
	for i := 1; i < len(l); i++ {
		if l[i-1].At >= l[i].At {
			return false
		}
	}
	return true
}

// oddLists are those that do not rise, that have one At twice, or that have wrong numbers and those as great and as small as an int can be.
func oddLists() [][]api.Mark {
	numbers := []int{least, least + 1, -2, -1, 0, 1, 2, 1 << 32, 1 << 62, greatest - 1, greatest}
	out := [][]api.Mark{
		nil, {}, of(5, 1, 2, 1), of(9, 1, 5, 2, 2, 3), of(4, 1, 4, 1), of(4, 1, 4, 2, 4, 3), of(0, 1, 9, 2, 4, 3, 9, 4, 0, 5), of(2, 1, 1, 1, 3, 1),
	}
	for _, a := range numbers {
		for _, b := range numbers {
			out = append(out, of(a, b), of(a, b, b, a), of(2, 2, a, b), of(a, b, 2, 2), of(a, b, a, a, b, a))
		}
	}
	return out
}

// R1, R2, R3, R4: no call panics, whatever it is handed; beside a no the list is as it was; nothing handed in is changed; the same is told again.
func TestOddListsEnd(t *testing.T) {
	numbers := []int{least, least + 1, -1, 0, 1, 2, 3, 4, 5, 9, 1 << 32, 1 << 62, greatest - 1, greatest}
	for _, l := range oddLists() {
		was := slices.Clone(l)
		for _, at := range numbers {
			got, class, ok := Take(l, at)
			again, classAgain, okAgain := Take(l, at)
			if !slices.Equal(got, again) || class != classAgain || ok != okAgain || !ok && (!slices.Equal(got, l) || class != 0) {
				t.Fatalf("Take(%v, %d): %v %d %v", l, at, got, class, ok)
			}
			told, there := Class(l, at)
			if there != ok || told != class {
				t.Fatalf("Class(%v, %d): %d %v", l, at, told, there)
			}
			for _, class := range numbers {
				m := api.Mark{At: at, Class: class}
				if got := Put(l, m); !slices.Equal(got, Put(l, m)) {
					t.Fatalf("Put(%v, %v): %v, then other", l, m, got)
				}
			}
		}
		if !slices.Equal(l, was) {
			t.Fatalf("%v was changed to %v", was, l)
		}
	}
}

// R3: nil and an empty list are one, with spare room too.
func TestNilAndEmptyAreOne(t *testing.T) {
	for _, l := range [][]api.Mark{nil, {}, of(0, 9, 9, 9)[:0]} {
		put := Put(l, api.Mark{At: 9, Class: 1})
		took, class, ok := Take(l, 9)
		told, there := Class(l, 9)
		if !slices.Equal(put, of(9, 1)) || ok || class != 0 || len(took) != 0 || there || told != 0 {
			t.Errorf("%#v: %v, %v %d %v, %d %v", l, put, took, class, ok, told, there)
		}
	}
}

// R3: what is handed in is not changed, its spare room neither, and no answer shares memory with it.
func TestHandedInIsNotChanged(t *testing.T) {
	put := func(at, class int) func(l []api.Mark) []api.Mark {
		return func(l []api.Mark) []api.Mark { return Put(l, api.Mark{At: at, Class: class}) }
	}
	take := func(at int) func(l []api.Mark) []api.Mark {
		return func(l []api.Mark) []api.Mark { out, _, _ := Take(l, at); return out }
	}
	odd := api.Mark{At: -7, Class: -7}
	for i, call := range []func(l []api.Mark) []api.Mark{
		put(0, 1), put(5, 2), put(9, 2), put(20, 2), put(2, 9), put(7, 9), put(12, 9), put(2, 3), put(7, 4), put(12, 1),
		take(2), take(7), take(12), take(0), take(3), take(20),
		func(l []api.Mark) []api.Mark { Class(l, 7); Class(l, 8); return nil },
	} {
		whole := append(of(2, 3, 7, 4, 12, 1), odd, odd, odd)
		was := slices.Clone(whole)
		out := call(whole[:3])
		if !slices.Equal(whole, was) {
			t.Errorf("call %d changed it to %v", i, whole)
		}
		out = out[:cap(out)]
		for j := range out {
			out[j] = api.Mark{At: -9, Class: -9}
		}
		if !slices.Equal(whole, was) {
			t.Errorf("call %d: what it told shares memory: %v", i, whole)
		}
	}
}

// R3: what was told stays as it was, whatever is then done to the list that was handed in, or put into what was told.
func TestNothingIsKept(t *testing.T) {
	l := of(2, 3, 7, 4)
	put := Put(l, api.Mark{At: 20, Class: 1})
	more := Put(put, api.Mark{At: 30, Class: 1})
	other := Put(put, api.Mark{At: 40, Class: 1})
	instead := Put(put, api.Mark{At: 7, Class: 0})
	took, _, _ := Take(put, 20)
	no, _, _ := Take(l, 3)
	l[0], l[1] = api.Mark{}, api.Mark{}
	if !slices.Equal(put, of(2, 3, 7, 4, 20, 1)) || !slices.Equal(more, of(2, 3, 7, 4, 20, 1, 30, 1)) || !slices.Equal(other, of(2, 3, 7, 4, 20, 1, 40, 1)) || !slices.Equal(instead, of(2, 3, 7, 0, 20, 1)) || !slices.Equal(took, of(2, 3, 7, 4)) || !slices.Equal(no, of(2, 3, 7, 4)) {
		t.Errorf("%v, %v, %v, %v, %v, %v", put, more, other, instead, took, no)
	}
}
