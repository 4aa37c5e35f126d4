package commit

import (
	"slices"
	"strings"
	"testing"
)

const (
	greatest = 1<<63 - 1
	least    = -1 << 63
	heap     = 65536 // MaxHeap, written out: no heap has more pages
)

// row makes pages of a text: x is set, a point is not.
func row(s string) []bool {
	out := make([]bool, len(s))
	for i := range out {
		out[i] = s[i] == 'x'
	}
	return out
}

// drawn undoes row.
func drawn(l []bool) string {
	var out []byte
	for _, set := range l {
		if set {
			out = append(out, 'x')
		} else {
			out = append(out, '.')
		}
	}
	return string(out)
}

// ask is what Commit is asked, and what it tells where that is not a no.
type ask struct {
	on, met             string
	first, behind, most int
	want                string
	fresh               []int
}

func checkAsks(t *testing.T, l []ask) {
	t.Helper()
	for _, x := range l {
		got, fresh, ok := Commit(row(x.on), row(x.met), x.first, x.behind, x.most)
		if !ok || drawn(got) != x.want || !slices.Equal(fresh, x.fresh) {
			t.Errorf("Commit(%q, %q, %d, %d, %d): %q, %v, %v", x.on, x.met, x.first, x.behind, x.most, drawn(got), fresh, ok)
		}
	}
}

// checkNo checks that Commit tells a no, and beside it nothing.
func checkNo(t *testing.T, on, met []bool, first, behind, most int) {
	t.Helper()
	if got, fresh, ok := Commit(on, met, first, behind, most); ok || got != nil || fresh != nil {
		t.Errorf("Commit(%q, %q, %d, %d, %d): %q, %v, %v", drawn(on), drawn(met), first, behind, most, drawn(got), fresh, ok)
	}
}

// checkNoes checks asks that Commit tells a no of; what they want is not looked at.
func checkNoes(t *testing.T, l []ask) {
	t.Helper()
	for _, x := range l {
		checkNo(t, row(x.on), row(x.met), x.first, x.behind, x.most)
	}
}

// P13.1: the chapter's example: Commit of what is there: nothing fresh.
func TestExample(t *testing.T) {
	checkAsks(t, []ask{{on: ".xx.", met: "....", first: 1, behind: 3, most: 4, want: ".xx."}})
}

// P13.1: Commit where there is no page at all.
func TestCommitWithNoPageAtAll(t *testing.T) {
	checkAsks(t, []ask{{most: 0}, {most: 1}, {most: heap}, {most: greatest}})
	checkNoes(t, []ask{
		{most: -1}, {most: least}, {behind: 1, most: 9}, {first: 1, behind: 1, most: 9}, {first: -1, most: 9}, {first: -1, behind: -1, most: 9}, {first: 1, most: 9}, {behind: -1, most: 9},
	})
}

// P13.1: Commit of no page, with first and behind the same at 0, in the middle, and at how many there are: nothing is fresh, but what is not met goes where it is too much.
func TestCommitOfNoPage(t *testing.T) {
	for _, at := range []int{0, 1, 2, 3, 4} {
		checkAsks(t, []ask{
			{"....", "....", at, at, 0, "....", nil}, {"....", "....", at, at, 4, "....", nil}, {"....", "xxxx", at, at, 4, "....", nil},
			{"xxxx", "....", at, at, 4, "xxxx", nil}, {"xxxx", "....", at, at, 3, "....", nil}, {"xxxx", "....", at, at, 0, "....", nil},
			{"xxxx", "xxxx", at, at, 4, "xxxx", nil}, {"x.x.", "x...", at, at, 2, "x.x.", nil}, {"x.x.", "x...", at, at, 1, "x...", nil}, {".xx.", "..xx", at, at, 2, ".xx.", nil}, {"xxx.", "..xx", at, at, 2, "..x.", nil},
		})
		checkNoes(t, []ask{
			{on: "....", met: "....", first: at, behind: at, most: -1}, {on: "x.x.", met: "x...", first: at, behind: at, most: 0}, {on: "....", met: "xxxx", first: at, behind: at, most: 3}, {on: "xxxx", met: "xxxx", first: at, behind: at, most: 3}, {on: "xxx.", met: "..xx", first: at, behind: at, most: 1},
		})
	}
	checkAsks(t, []ask{{".", ".", 0, 0, 0, ".", nil}, {".", ".", 1, 1, 0, ".", nil}, {"x", ".", 1, 1, 0, ".", nil}, {"x", ".", 0, 0, 0, ".", nil}, {"x", ".", 1, 1, 1, "x", nil}})
}

// P13.1: Commit up to how many there are, and of one page less.
func TestCommitUpToTheLast(t *testing.T) {
	checkAsks(t, []ask{
		{"....", "....", 3, 4, 1, "...x", []int{3}}, {"....", "....", 2, 4, 2, "..xx", []int{2, 3}}, {"....", "....", 2, 3, 2, "..x.", []int{2}}, {"...x", "....", 2, 4, 2, "..xx", []int{2}}, {"...x", "...x", 3, 4, 1, "...x", nil},
		{"x...", "....", 3, 4, 1, "...x", []int{3}}, {"x...", "....", 3, 4, 2, "x..x", []int{3}}, {"x...", "x...", 3, 4, 2, "x..x", []int{3}}, {".", ".", 0, 1, 1, "x", []int{0}}, {"x", ".", 0, 1, 1, "x", nil}, {".", "x", 0, 1, 1, "x", []int{0}},
	})
	checkNoes(t, []ask{
		{on: "x...", met: "x...", first: 3, behind: 4, most: 1}, {on: "....", met: "....", first: 3, behind: 5, most: 9}, {on: "....", met: "....", first: 4, behind: 5, most: 9}, {on: ".", met: ".", first: 0, behind: 2, most: 9},
	})
}

// P13.1: Commit of all pages: none of them goes.
func TestCommitOfAllPages(t *testing.T) {
	for _, met := range []string{"....", "x...", ".xx.", "xxxx"} {
		checkAsks(t, []ask{
			{"....", met, 0, 4, 4, "xxxx", []int{0, 1, 2, 3}}, {"....", met, 0, 4, greatest, "xxxx", []int{0, 1, 2, 3}}, {"x..x", met, 0, 4, 4, "xxxx", []int{1, 2}}, {".xx.", met, 0, 4, 5, "xxxx", []int{0, 3}}, {"xxxx", met, 0, 4, 4, "xxxx", nil},
		})
		checkNoes(t, []ask{
			{on: "....", met: met, behind: 4, most: 3}, {on: "xxxx", met: met, behind: 4, most: 3}, {on: "xxxx", met: met, behind: 4, most: 0}, {on: ".xx.", met: met, behind: 4, most: -1},
		})
	}
}

// P13.1: as many as are met, or among these, just most, one below and one above; a page that is both counts once, and one that is met counts also where it is not there. (All that are there are met or among these here, so that none goes.)
func TestMostOfThoseMetOrAmongThese(t *testing.T) {
	for _, x := range []ask{
		{"x.....", "x.....", 2, 4, 3, "x.xx..", []int{2, 3}},
		{"xxx...", "xxx...", 2, 4, 4, "xxxx..", []int{3}},
		{"..xx..", "..xx..", 2, 4, 2, "..xx..", nil},
		{"..xx..", "......", 2, 4, 2, "..xx..", nil},
		{"......", "..xx..", 2, 4, 2, "..xx..", []int{2, 3}},
		{"......", "xx..xx", 2, 4, 6, "..xx..", []int{2, 3}},
		{"x.....", "xx..xx", 2, 4, 6, "x.xx..", []int{2, 3}},
		{"......", "x....x", 5, 6, 2, ".....x", []int{5}},
		{"......", "x....x", 0, 1, 2, "x.....", []int{0}},
		{"......", "x....x", 1, 2, 3, ".x....", []int{1}},
		{"x....x", "x....x", 3, 3, 2, "x....x", nil},
		{"......", "x..x.x", 0, 6, 6, "xxxxxx", []int{0, 1, 2, 3, 4, 5}},
	} {
		for _, most := range []int{x.most, x.most + 1, x.most + 2, greatest} {
			checkAsks(t, []ask{{x.on, x.met, x.first, x.behind, most, x.want, x.fresh}})
		}
		for _, most := range []int{x.most - 1, x.most - 2, 0, -1, least} {
			checkNo(t, row(x.on), row(x.met), x.first, x.behind, most)
		}
	}
}

// P13.1: those that are there and these just most, and one more: then all go that are neither met nor among these, not only as many as are too much.
func TestMostOfThoseThereAndThese(t *testing.T) {
	checkAsks(t, []ask{
		{"xxx...", "......", 3, 4, 4, "xxxx..", []int{3}}, {"xxx...", "......", 3, 4, 3, "...x..", []int{3}}, {"xxx...", "......", 3, 4, 1, "...x..", []int{3}},
		{"xxx...", "x.....", 3, 4, 4, "xxxx..", []int{3}}, {"xxx...", "x.....", 3, 4, 3, "x..x..", []int{3}}, {"xxx...", "x.....", 3, 4, 2, "x..x..", []int{3}},
		{"xxx..x", ".x...x", 3, 5, 6, "xxxxxx", []int{3, 4}}, {"xxx..x", ".x...x", 3, 5, 5, ".x.xxx", []int{3, 4}}, {"xxx..x", ".x...x", 3, 5, 4, ".x.xxx", []int{3, 4}},
		{"xxx...", "......", 1, 4, 4, "xxxx..", []int{3}}, {"xxx...", "......", 1, 4, 3, ".xxx..", []int{3}}, {"xxxx..", "......", 1, 3, 4, "xxxx..", nil}, {"xxxx..", "......", 1, 3, 3, ".xx...", nil}, {"xxxx..", "...x..", 1, 3, 3, ".xxx..", nil}, {"xxxx..", "....x.", 1, 3, 3, ".xx...", nil},
		{"xxxxxx", "......", 0, 1, 5, "x.....", nil}, {"xxxxxx", "......", 5, 6, 5, ".....x", nil}, {"xxxxxx", "x.x...", 5, 6, 5, "x.x..x", nil}, {"xxxxxx", "xxxxx.", 0, 5, 5, "xxxxx.", nil}, {"xxxxxx", "xxxxx.", 0, 5, 6, "xxxxxx", nil},
	})
}

// P13.1: where no page may be there, none that is stays but with a no.
func TestMostNought(t *testing.T) {
	checkAsks(t, []ask{
		{"....", "....", 0, 0, 0, "....", nil}, {"....", "....", 4, 4, 0, "....", nil}, {"xxxx", "....", 2, 2, 0, "....", nil}, {"x...", "....", 1, 1, 0, "....", nil}, {"", "", 0, 0, 0, "", nil},
	})
	checkNoes(t, []ask{
		{on: "....", met: "....", first: 0, behind: 1}, {on: "....", met: "....", first: 3, behind: 4}, {on: "x...", met: "....", first: 0, behind: 1}, {on: "....", met: "x...", first: 2, behind: 2}, {on: "...x", met: "...x", first: 2, behind: 2}, {on: "xxxx", met: "xxxx", first: 0, behind: 4},
	})
}

// P13.1: of pages that are there and met, there and not met, met and not there, and neither, ahead of these, among them, and behind: what comes of each, where all can stay and where they can't.
func TestEachKindOfPage(t *testing.T) {
	checkAsks(t, []ask{
		{"xx..xx..xx..", "x.x.x.x.x.x.", 4, 8, 99, "xx..xxxxxx..", []int{6, 7}},
		{"xx..xx..xx..", "x.x.x.x.x.x.", 4, 8, 8, "xx..xxxxxx..", []int{6, 7}},
		{"xx..xx..xx..", "x.x.x.x.x...", 4, 8, 7, "x...xxxxx...", []int{6, 7}},
		{"xx..xx..xx..", "x.x.x.x.x.x.", 0, 4, 8, "xxxxxx..xx..", []int{2, 3}},
		{"xx..xx...x..", "x...x...x...", 0, 4, 7, "xxxxxx...x..", []int{2, 3}},
		{"xx..xx...x..", "x...x...x...", 0, 4, 6, "xxxxx.......", []int{2, 3}},
		{"xx..xx...x..", "x...x...x...", 8, 12, 8, "xx..xx..xxxx", []int{8, 10, 11}},
		{"xx..xx...x..", "x...x...x...", 8, 12, 7, "x...x...xxxx", []int{8, 10, 11}},
	})
	for _, x := range []struct{ on, met, among, free, crowded string }{
		{"x", "x", ".", "x", "x"}, {"x", ".", ".", "x", "."}, {".", "x", ".", ".", "."}, {".", ".", ".", ".", "."},
		{"x", "x", "x", "x", "x"}, {"x", ".", "x", "x", "x"}, {".", "x", "x", "x", "x"}, {".", ".", "x", "x", "x"},
	} {
		behind := strings.Count(x.among, "x")
		var fresh []int
		if x.on == "." && behind == 1 {
			fresh = []int{0}
		}
		// Two pages more, that are there and not met, make it too much, however many are wanted.
		checkAsks(t, []ask{{x.on + "xx", x.met + "..", 0, behind, 3, x.free + "xx", fresh}, {x.on + "xx", x.met + "..", 0, behind, 1, x.crowded + "..", fresh}})
	}
}

// P13.1: what is there already and asked for again: nothing is fresh, whichever of the pages are asked for, and how often.
func TestAgainNothingIsFresh(t *testing.T) {
	for first := range 7 {
		for behind := first; behind <= 6; behind++ {
			want := strings.Repeat(".", first) + strings.Repeat("x", behind-first) + strings.Repeat(".", 6-behind)
			x, fresh, ok := Commit(row("......"), row("......"), first, behind, behind-first)
			if !ok || drawn(x) != want || len(fresh) != behind-first {
				t.Errorf("Commit from %d to %d: %q, %v, %v", first, behind, drawn(x), fresh, ok)
			}
			for _, met := range []string{"......", want} {
				checkAsks(t, []ask{{want, met, first, behind, behind - first, want, nil}, {want, met, first, behind, 6, want, nil}})
			}
			for inner := first; inner < behind; inner++ {
				checkAsks(t, []ask{{want, want, first, inner, 6, want, nil}, {want, want, inner, behind, 6, want, nil}, {want, "......", inner, inner + 1, behind - first, want, nil}})
			}
		}
	}
}

// P13.1: what is fresh is told in the pages' order, each page once, also where others go.
func TestFreshInTheirOrder(t *testing.T) {
	checkAsks(t, []ask{
		{"........", "........", 0, 8, 8, "xxxxxxxx", []int{0, 1, 2, 3, 4, 5, 6, 7}}, {".x.x.x.x", "........", 0, 8, 8, "xxxxxxxx", []int{0, 2, 4, 6}}, {"x.x.x.x.", "........", 0, 8, 8, "xxxxxxxx", []int{1, 3, 5, 7}}, {"x.x.x.x.", "xxxxxxxx", 2, 7, 8, "x.xxxxx.", []int{3, 5}},
		{"x.x.x.x.", "........", 2, 6, 6, "x.xxxxx.", []int{3, 5}}, {"x.x.x.x.", "........", 2, 6, 5, "..xxxx..", []int{3, 5}}, {"x.xxxx.x", "........", 1, 7, 7, ".xxxxxx.", []int{1, 6}}, {"x......x", "x......x", 1, 7, 8, "xxxxxxxx", []int{1, 2, 3, 4, 5, 6}},
	})
}

// P13.1: rows that are not of one length are no, even where what is asked for, or nothing, would be in both.
func TestRowsOfTwoLengths(t *testing.T) {
	for _, n := range []int{0, 1, 2, 3, 63, 64, 65, 128, 200} {
		for _, more := range []int{1, 2, 63, 64, 65, 1000} {
			short, long := make([]bool, n), make([]bool, n+more)
			for _, first := range []int{0, n, n + more} {
				for _, behind := range []int{first, n, n + more} {
					checkNo(t, short, long, first, behind, greatest)
					checkNo(t, long, short, first, behind, greatest)
				}
			}
			// Spare room doesn't make a row longer.
			checkNo(t, long[:n], long, 0, 0, greatest)
			checkNo(t, long, long[:n], 0, 0, greatest)
		}
	}
}

// numbers are as small and as great as an int can be, those near the edges of rows of four pages, and some between.
func numbers() []int {
	return []int{least, least + 1, -1 << 62, -1 << 32, -1 << 31, -heap, -65, -64, -63, -5, -4, -3, -2, -1, 0, 1, 2, 3, 4, 5, 6, 7, 8, 63, 64, 65, 68, heap, 1<<31 - 1, 1 << 31, 1 << 32, 1<<32 + 2, 1 << 62, greatest - 4, greatest - 1, greatest}
}

// P13.1: first below 0, first above behind, behind above how many there are, most below 0, and numbers as great and as small as an int can be: of rows of four pages all such asks are as the promise has them.
func TestWrongNumbers(t *testing.T) {
	all := numbers()
	for _, x := range []struct{ on, met string }{{"....", "...."}, {"x.x.", "xx.."}, {"xxxx", "xxxx"}, {"xxxx", "...."}} {
		on, met := row(x.on), row(x.met)
		for _, first := range all {
			for _, behind := range all {
				for _, most := range all {
					if first < 0 || first > behind || behind > 4 || most < 0 {
						checkNo(t, on, met, first, behind, most)
					} else {
						checkCommit(t, on, met, first, behind, most)
					}
				}
			}
		}
	}
}

// among tells if page i is one of those from first to ahead of behind.
func among(i, first, behind int) bool {
	return first <= i && i < behind
}

// countOf tells how many are set by leaving out those that are not.
func countOf(l []bool) int {
	return len(slices.DeleteFunc(slices.Clone(l), func(set bool) bool { return !set }))
}

// wantedOf tells how many are set in l, or among those from first to ahead of behind, page by page.
func wantedOf(l []bool, first, behind int) int {
	count := 0
	for i, set := range l {
		if set || among(i, first, behind) {
			count++
		}
	}
	return count
}

// plainCommit says the promise once more, page by page.
func plainCommit(on, met []bool, first, behind, most int) ([]bool, []int, bool) {
	if len(on) != len(met) || first < 0 || first > behind || behind > len(on) || wantedOf(met, first, behind) > most {
		return nil, nil, false
	}
	crowded := wantedOf(on, first, behind) > most
	var x []bool
	var fresh []int
	for i := range on {
		switch {
		case among(i, first, behind):
			x = append(x, true)
			if !on[i] {
				fresh = append(fresh, i)
			}
		case crowded && !met[i]:
			x = append(x, false)
		default:
			x = append(x, on[i])
		}
	}
	return x, fresh, true
}

func checkCommit(t *testing.T, on, met []bool, first, behind, most int) {
	t.Helper()
	x, fresh, ok := Commit(on, met, first, behind, most)
	wantX, wantFresh, want := plainCommit(on, met, first, behind, most)
	if ok != want || !slices.Equal(x, wantX) || !slices.Equal(fresh, wantFresh) {
		t.Fatalf("Commit(%q, %q, %d, %d, %d): %q, %v, %v, not %q, %v, %v", drawn(on), drawn(met), first, behind, most, drawn(x), fresh, ok, drawn(wantX), wantFresh, want)
	}
}

// rows tells all rows of n pages.
func rows(n int) [][]bool {
	out := [][]bool{{}}
	for range n {
		var next [][]bool
		for _, l := range out {
			next = append(next, append(slices.Clone(l), false), append(slices.Clone(l), true))
		}
		out = next
	}
	return out
}

// P13.1: of all rows of up to five pages all asks are as the promise has them, page by page.
func TestCommitAsSaidPlainly(t *testing.T) {
	for n := range 6 {
		for _, on := range rows(n) {
			for _, met := range rows(n) {
				for first := -1; first <= n+1; first++ {
					for behind := -1; behind <= n+1; behind++ {
						for most := -1; most <= n+1; most++ {
							checkCommit(t, on, met, first, behind, most)
						}
					}
				}
			}
		}
	}
}

// marked makes n pages, of which about one in every is set, from a short rule.
func marked(n, every, rule int) []bool {
	out := make([]bool, n)
	for i := range out {
		out[i] = (i*i*rule+i*7+rule)%101%every == 0
	}
	return out
}

// edgesOf tells pages of n where a word of bits could end, and the first and the last ones.
func edgesOf(n int) []int {
	var out []int
	for _, i := range []int{0, 1, 2, 31, 32, 62, 63, 64, 65, 100, 126, 127, 128, 129, 191, 192, 193, n / 2, n - 2, n - 1, n} {
		if i >= 0 && i <= n && !slices.Contains(out, i) {
			out = append(out, i)
		}
	}
	return out
}

// mosts tells numbers on both sides of those that Commit asks of.
func mosts(on, met []bool, first, behind int) []int {
	wanted, all := wantedOf(met, first, behind), wantedOf(on, first, behind)
	return []int{0, wanted - 1, wanted, wanted + 1, all - 1, all, all + 1, len(on), greatest}
}

// P13.1: of rows of more pages than a word has bits, one fewer and one more, all is as the promise has it.
func TestCommitOfManyPages(t *testing.T) {
	for _, n := range []int{31, 32, 33, 62, 63, 64, 65, 66, 100, 127, 128, 129, 130, 191, 192, 193, 200} {
		for rule := range 4 {
			on, met := marked(n, 1+rule, rule+1), marked(n, 4-rule, rule+5)
			for _, first := range edgesOf(n) {
				for _, behind := range edgesOf(n) {
					for _, most := range mosts(on, met, first, behind) {
						checkCommit(t, on, met, first, behind, most)
					}
				}
			}
		}
	}
}

// P13.1: of as many pages as a heap can have, and of more, all is as the promise has it.
func TestCommitOfMostPages(t *testing.T) {
	for _, n := range []int{heap - 1, heap, heap + 1, 3*heap + 37} {
		on, met := marked(n, 2, 3), marked(n, 3, 4)
		for _, x := range []struct{ first, behind int }{{0, 0}, {0, n}, {n, n}, {n - 1, n}, {0, 1}, {n / 3, n / 2}, {63, 4097}, {n - 65, n - 1}} {
			for _, most := range mosts(on, met, x.first, x.behind) {
				checkCommit(t, on, met, x.first, x.behind, most)
			}
		}
	}
}

// P13.1: what follows: whoever is refused would be by any other one: a no hangs on what is met and on these alone, and is told only where all these and what is met, which no one could let go, would be above most; beside a yes no more than most are there, all these among them, and of those that were there all that are met.
func TestWhoeverIsRefusedWouldBeByAnyOther(t *testing.T) {
	const n = 4
	all := rows(n)
	for _, met := range all {
		for first := range n + 1 {
			for behind := first; behind <= n; behind++ {
				for most := range n + 2 {
					_, _, may := Commit(make([]bool, n), met, first, behind, most)
					for _, on := range all {
						x, _, ok := Commit(on, met, first, behind, most)
						if ok != may {
							t.Fatalf("Commit(%q, %q, %d, %d, %d): %v", drawn(on), drawn(met), first, behind, most, ok)
						}
						if ok && (countOf(x) > most || !holds(x, on, met, first, behind)) {
							t.Fatalf("Commit(%q, %q, %d, %d, %d): %q", drawn(on), drawn(met), first, behind, most, drawn(x))
						}
						if !ok && anyWay(all, met, first, behind, most) {
							t.Fatalf("Commit(%q, %q, %d, %d, %d): a no", drawn(on), drawn(met), first, behind, most)
						}
					}
				}
			}
		}
	}
}

// holds tells if x has all that it must, and nothing that it may not.
func holds(x, on, met []bool, first, behind int) bool {
	for i := range x {
		these := among(i, first, behind)
		if (these || on[i] && met[i]) && !x[i] || x[i] && !these && !on[i] {
			return false
		}
	}
	return true
}

// anyWay tells if one of all rows has what is met and those from first to ahead of behind, and no more than most.
func anyWay(all [][]bool, met []bool, first, behind, most int) bool {
	for _, l := range all {
		has := countOf(l) <= most
		for i := range l {
			has = has && (l[i] || !met[i] && !among(i, first, behind))
		}
		if has {
			return true
		}
	}
	return false
}

// P13.1: Trim where all are met, none is, none is there, some went, and where what is met is not there.
func TestTrim(t *testing.T) {
	for _, x := range []struct {
		on, met, want string
		gone          int
	}{
		{"", "", "", 0}, {".", ".", ".", 0}, {".", "x", ".", 0}, {"x", ".", ".", 1}, {"x", "x", "x", 0},
		{"xxxx", "xxxx", "xxxx", 0}, {"x.x.", "xxxx", "x.x.", 0}, {"...x", "xxxx", "...x", 0},
		{"xxxx", "....", "....", 4}, {"x.x.", "....", "....", 2}, {"x...", "....", "....", 1}, {"...x", "....", "....", 1},
		{"....", "....", "....", 0}, {"....", "xxxx", "....", 0}, {"....", ".xx.", "....", 0}, {"....", "...x", "....", 0},
		{"xxxx", ".x.x", ".x.x", 2}, {"xxxx", "x...", "x...", 3}, {"xxxx", "...x", "...x", 3}, {"xxxx", "xxx.", "xxx.", 1}, {".xx.", "xx..", ".x..", 1}, {"xx..", "..xx", "....", 2}, {"xx..", "x.x.", "x...", 1}, {"x..x", "x..x", "x..x", 0}, {"x.xx.x", "..x..x", "..x..x", 2},
	} {
		if got, gone := Trim(row(x.on), row(x.met)); drawn(got) != x.want || gone != x.gone {
			t.Errorf("Trim(%q, %q): %q, %d", x.on, x.met, drawn(got), gone)
		}
	}
}

func checkTrim(t *testing.T, on, met []bool) {
	t.Helper()
	want := make([]bool, len(on))
	wantGone := 0
	for i := range on {
		want[i] = on[i] && met[i]
		if on[i] && !met[i] {
			wantGone++
		}
	}
	if got, gone := Trim(on, met); gone != wantGone || !slices.Equal(got, want) {
		t.Fatalf("Trim(%q, %q): %q, %d, not %q, %d", drawn(on), drawn(met), drawn(got), gone, drawn(want), wantGone)
	}
}

// P13.1: Trim of all rows of up to six pages, of more than a word has bits, and of as many as a heap can have, is as the promise has it, page by page.
func TestTrimAsSaidPlainly(t *testing.T) {
	for n := range 7 {
		for _, on := range rows(n) {
			for _, met := range rows(n) {
				checkTrim(t, on, met)
			}
		}
	}
	for n := range 260 {
		for rule := range 5 {
			checkTrim(t, marked(n, 1+rule, rule+1), marked(n, 5-rule, rule+6))
		}
	}
	for _, n := range []int{heap - 1, heap, heap + 1, 3*heap + 37} {
		checkTrim(t, marked(n, 2, 3), marked(n, 3, 4))
		checkTrim(t, marked(n, 1, 1), marked(n, 101, 1))
	}
}

// P13.1: Trim once more finds nothing that could go; and Commit of no page, where what is there is too much, tells what Trim does.
func TestTrimAndCommitOfNoPage(t *testing.T) {
	for _, on := range rows(5) {
		for _, met := range rows(5) {
			x, gone := Trim(on, met)
			if again, more := Trim(x, met); more != 0 || !slices.Equal(again, x) {
				t.Fatalf("Trim(%q, %q): %q, %d", drawn(x), drawn(met), drawn(again), more)
			}
			if gone != countOf(on)-countOf(x) {
				t.Fatalf("Trim(%q, %q): %q, %d", drawn(on), drawn(met), drawn(x), gone)
			}
			if most := countOf(met); countOf(on) > most {
				if got, _, ok := Commit(on, met, 2, 2, most); !ok || !slices.Equal(got, x) {
					t.Fatalf("Commit(%q, %q, 2, 2, %d): %q, %v", drawn(on), drawn(met), most, drawn(got), ok)
				}
			}
		}
	}
}

// R1: Trim of rows of different lengths, which no promise is of, ends without a panic, and changes neither.
func TestTrimOfTwoLengths(t *testing.T) {
	for _, n := range []int{0, 1, 2, 63, 64, 65, 127, 128, 129, 200, heap} {
		for _, m := range []int{0, 1, 2, 63, 64, 65, 127, 128, 129, 200, heap} {
			for rule := range 3 {
				on, met := marked(n, 1+rule, 2), marked(m, 3-rule, 5)
				wasOn, wasMet := slices.Clone(on), slices.Clone(met)
				Trim(on, met)
				if !slices.Equal(on, wasOn) || !slices.Equal(met, wasMet) {
					t.Fatalf("Trim of %d pages and %d changed them", n, m)
				}
			}
		}
	}
}

// R3: what is handed in is not changed, its spare room neither, with a yes and with a no.
func TestHandedInIsNotChanged(t *testing.T) {
	for rule := range 4 {
		on, met := marked(300, 2, rule+1), marked(300, 3, rule+5)
		wasOn, wasMet := slices.Clone(on), slices.Clone(met)
		for _, n := range []int{0, 1, 4, 63, 64, 65, 130} {
			for _, first := range edgesOf(n) {
				for _, behind := range edgesOf(n) {
					for _, most := range append(mosts(on[:n], met[:n], first, behind), -1, least) {
						Commit(on[:n], met[:n], first, behind, most)
						Commit(on[:n], met[:n+1], first, behind, most)
						Commit(on[:n+1], met[:n], first, behind, most)
					}
				}
			}
			Commit(on[:n], met[:n], -1, n, greatest)
			Commit(on[:n], met[:n], 0, n+1, greatest)
			Trim(on[:n], met[:n])
			Trim(on[:n+1], met[:n])
			Trim(on[:n], met[:n+1])
			if !slices.Equal(on, wasOn) || !slices.Equal(met, wasMet) {
				t.Fatalf("rule %d, %d pages: what was handed in was changed", rule, n)
			}
		}
	}
}

// turn turns all of l, its spare room too.
func turn(l []bool) {
	l = l[:cap(l)]
	for i := range l {
		l[i] = !l[i]
	}
}

// R3: what was told stays as it was, whatever is then done to what was handed in, or to another answer; and what is written into an answer, in its spare room too, is neither told again nor seen in what was handed in. So also where nothing has changed by the call.
func TestNothingIsKept(t *testing.T) {
	for _, x := range []ask{
		{"x.x...", "x.....", 3, 5, 6, "x.xxx.", []int{3, 4}}, {"x.x...", "x.....", 3, 5, 3, "x..xx.", []int{3, 4}}, {"x.x...", "......", 1, 1, 6, "x.x...", nil}, {"xxxxxx", "xxxxxx", 0, 6, 6, "xxxxxx", nil}, {"......", "xxxxxx", 2, 2, 6, "......", nil},
	} {
		on, met := row(x.on), row(x.met)
		got, fresh, _ := Commit(on, met, x.first, x.behind, x.most)
		other, otherFresh, _ := Commit(on, met, x.first, x.behind, x.most)
		turn(other)
		otherFresh = otherFresh[:cap(otherFresh)]
		for i := range otherFresh {
			otherFresh[i] = -7
		}
		if drawn(on) != x.on || drawn(met) != x.met {
			t.Errorf("an answer shares memory with %q or %q", x.on, x.met)
		}
		turn(on)
		turn(met)
		if drawn(got) != x.want || !slices.Equal(fresh, x.fresh) {
			t.Errorf("Commit(%q, %q, %d, %d, %d): then %q, %v", x.on, x.met, x.first, x.behind, x.most, drawn(got), fresh)
		}
		checkAsks(t, []ask{x})
	}
}

// R3: the same of Trim.
func TestNothingIsKeptByTrim(t *testing.T) {
	for _, x := range []struct{ on, met, want string }{{"xx..", "x.x.", "x..."}, {"xxxx", "xxxx", "xxxx"}, {"....", "....", "...."}, {"xxxx", "....", "...."}} {
		on, met := row(x.on), row(x.met)
		got, _ := Trim(on, met)
		other, _ := Trim(on, met)
		turn(other)
		if drawn(on) != x.on || drawn(met) != x.met {
			t.Errorf("an answer shares memory with %q or %q", x.on, x.met)
		}
		turn(on)
		turn(met)
		again, _ := Trim(row(x.on), row(x.met))
		if drawn(got) != x.want || drawn(again) != x.want {
			t.Errorf("Trim(%q, %q): then %q, and again %q", x.on, x.met, drawn(got), drawn(again))
		}
	}
}

// R3: one row may be handed in as both, and pieces of one as two.
func TestRowsThatShareMemory(t *testing.T) {
	for _, l := range rows(6) {
		was := slices.Clone(l)
		for first := range 6 {
			checkCommit(t, l, l, first, 6, 6)
			checkCommit(t, l, l, first, first, 3)
			checkCommit(t, l[:4], l[2:], first/2, 3, 3)
			checkTrim(t, l, l)
			checkTrim(t, l[:4], l[2:])
		}
		if !slices.Equal(l, was) {
			t.Fatalf("%q was changed to %q", drawn(was), drawn(l))
		}
	}
}

// R3: nil and an empty row are one, with spare room too.
func TestNilAndEmptyAreOne(t *testing.T) {
	for _, on := range [][]bool{nil, {}, row("xx")[:0]} {
		for _, met := range [][]bool{nil, {}, row("xx")[:0]} {
			if x, fresh, ok := Commit(on, met, 0, 0, 0); !ok || len(x) != 0 || len(fresh) != 0 {
				t.Errorf("Commit(%#v, %#v, 0, 0, 0): %v, %v, %v", on, met, x, fresh, ok)
			}
			checkNo(t, on, met, 0, 1, 9)
			checkNo(t, on, met, 0, 0, -1)
			if x, gone := Trim(on, met); len(x) != 0 || gone != 0 {
				t.Errorf("Trim(%#v, %#v): %v, %d", on, met, x, gone)
			}
		}
	}
}
