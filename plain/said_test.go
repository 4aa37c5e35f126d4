package plain

import (
	"slices"
	"testing"

	"hodman/api"
	"hodman/conf"
)

// said is all that there is, said byte by byte and page by page, as the chapter's words have it.
type said struct {
	c             api.Conf
	charge, asked map[int]int // of the block that begins there
	on            []bool
	mem           []byte
	peak, mark    int
}

func sayNew(c api.Conf) said {
	return said{c: c, charge: map[int]int{}, asked: map[int]int{}, on: make([]bool, c.H/c.Page), mem: make([]byte, c.H)}
}

// again is s in memory of its own.
func (s said) again() said {
	out := sayNew(s.c)
	for at, charge := range s.charge {
		out.charge[at], out.asked[at] = charge, s.asked[at]
	}
	copy(out.on, s.on)
	copy(out.mem, s.mem)
	out.peak, out.mark = s.peak, s.mark
	return out
}

func (s said) live() int {
	sum := 0
	for _, charge := range s.charge {
		sum += charge
	}
	return sum
}

// taken says of each byte if it lies in a live block.
func (s said) taken() []bool {
	out := make([]bool, s.c.H)
	for at, charge := range s.charge {
		for i := at; i < at+charge; i++ {
			out[i] = true
		}
	}
	return out
}

func (s said) model() api.Model {
	out := api.Model{C: s.c, Live: s.live(), Peak: s.peak, Mark: s.mark, On: s.on, Mem: s.mem}
	for at := range s.c.H {
		if charge, ok := s.charge[at]; ok {
			out.Blocks = append(out.Blocks, api.Block{At: at, Charge: charge, Asked: s.asked[at]})
		}
	}
	return out
}

// sizes says why s and a are not let in; else what is charged.
func (s said) sizes(size, a int) (int, api.Errno) {
	power := false
	for p := 1; p <= s.c.N; p += p {
		power = power || p == a
	}
	if !power {
		return 0, api.EAlign
	}
	if size < 0 || size > s.c.N {
		return 0, api.ESize
	}
	charge := 1
	for charge < size || charge < a || charge < s.c.G {
		charge += charge
	}
	if s.live()+charge > s.c.M {
		return 0, api.ELimit
	}
	return charge, api.OK
}

// lowest says the lowest place by trying one multiple behind the other.
func (s said) lowest(charge int) (int, bool) {
	taken := s.taken()
	for at := 0; at+charge <= s.c.H; at += charge {
		free := true
		for i := at; i < at+charge; i++ {
			free = free && !taken[i]
		}
		if free {
			return at, true
		}
	}
	return 0, false
}

// commit says which pages are there if these bytes are to be, too, and fills those that are fresh.
func (s *said) commit(at, charge int) bool {
	taken := s.taken()
	met, these := make([]bool, len(s.on)), make([]bool, len(s.on))
	for i := range s.c.H {
		page := i / s.c.Page
		met[page] = met[page] || taken[i]
		these[page] = these[page] || i >= at && i < at+charge
	}
	needed, there := 0, 0
	for page := range s.on {
		if met[page] || these[page] {
			needed++
		}
		if s.on[page] || these[page] {
			there++
		}
	}
	if needed > s.c.P {
		return false
	}
	for page := range s.on {
		if these[page] && !s.on[page] {
			for i := range s.c.Page {
				s.mem[page*s.c.Page+i] = byte((s.c.Seed + 31*page + 7*i + 1) % 256)
			}
		}
		s.on[page] = these[page] || s.on[page] && (there <= s.c.P || met[page])
	}
	return true
}

func (s *said) place(size, a int) (int, int, api.Errno) {
	charge, e := s.sizes(size, a)
	if e != api.OK {
		return 0, 0, e
	}
	at, ok := s.lowest(charge)
	if !ok {
		return 0, 0, api.EPlace
	}
	if !s.commit(at, charge) {
		return 0, 0, api.ECommit
	}
	s.charge[at], s.asked[at] = charge, size
	s.mark = max(s.mark, at+charge)
	s.peak = max(s.peak, s.live())
	return at, charge, api.OK
}

func (s *said) calloc(n, size int) api.Ans {
	if n < 0 || size < 0 {
		return refused(api.EArg)
	}
	if n > 0 && size > s.c.N/n {
		return refused(api.ESize)
	}
	at, charge, e := s.place(n*size, 1)
	for i := at; i < at+charge; i++ {
		s.mem[i] = 0
	}
	return api.Ans{Err: e, At: at}
}

func (s *said) realloc(p, size int) api.Ans {
	old, ok := s.charge[p]
	if !ok {
		return refused(api.EPtr)
	}
	was := append([]byte(nil), s.mem[p:p+old]...)
	asked := s.asked[p]
	delete(s.charge, p)
	delete(s.asked, p)
	at, charge, e := s.place(size, 1)
	if e != api.OK {
		s.charge[p], s.asked[p] = old, asked
		return refused(e)
	}
	for i := 0; i < old && i < charge; i++ {
		s.mem[at+i] = was[i]
	}
	return api.Ans{At: at}
}

// byteAt says which byte n of the block at p is.
func (s *said) byteAt(p, n int) (int, api.Errno) {
	charge, ok := s.charge[p]
	if !ok {
		return 0, api.EPtr
	}
	if n < 0 || n >= charge {
		return 0, api.EBound
	}
	return p + n, api.OK
}

// held says how many pages are there, and trimmed lets those go in which nothing live lies.
func (s *said) held() int {
	count := 0
	for _, on := range s.on {
		if on {
			count++
		}
	}
	return count
}

func (s *said) trimmed() api.Ans {
	taken := s.taken()
	was := s.held()
	for page := range s.on {
		met := false
		for i := range s.c.Page {
			met = met || taken[page*s.c.Page+i]
		}
		s.on[page] = s.on[page] && met
	}
	return of(was - s.held())
}

// tell does o, and says what it is told.
func (s *said) tell(o api.Op) api.Ans {
	switch o.Kind {
	case api.Malloc, api.Aligned:
		a := o.A
		if o.Kind == api.Malloc {
			a = 1
		}
		at, _, e := s.place(o.S, a)
		return api.Ans{Err: e, At: at}
	case api.Calloc:
		return s.calloc(o.N, o.S)
	case api.Realloc:
		return s.realloc(o.P, o.S)
	case api.Trim:
		return s.trimmed()
	case api.Figures:
		return told(s.live(), s.peak, s.mark, s.held())
	}
	return s.tellOfOne(o)
}

// tellOfOne is as tell, of the Kinds that ask for a block or a byte of it.
func (s *said) tellOfOne(o api.Op) api.Ans {
	charge, ok := s.charge[o.P]
	if o.Kind >= api.Free && o.Kind <= api.Usable && !ok {
		return refused(api.EPtr)
	}
	i, e := s.byteAt(o.P, o.N)
	switch {
	case o.Kind == api.Free:
		delete(s.charge, o.P)
		delete(s.asked, o.P)
		return done
	case o.Kind == api.Usable:
		return of(charge)
	case o.Kind != api.Load && o.Kind != api.Store:
		return refused(api.EArg)
	case e != api.OK:
		return refused(e)
	case o.Kind == api.Load:
		return is(s.mem[i])
	}
	s.mem[i] = o.B
	return done
}

// holds asks if m, o and what it tells are as s says; s goes on.
func holds(t *testing.T, m api.Model, s *said, o api.Op) (api.Model, api.Ans) {
	t.Helper()
	next, a := do(t, m, o)
	if want := s.tell(o); a != want {
		t.Fatalf("%+v: %+v: %+v, not %+v", m, o, a, want)
	}
	if want := s.model(); !alike(next, want) || !Same(next, want) {
		t.Fatalf("%+v: %+v: %+v, not %+v", m, o, next, want)
	}
	return next, a
}

// chance is a row of numbers that is the same each time.
type chance uint64

// below tells a number from 0 to below n.
func (c *chance) below(n int) int {
	*c = *c*6364136223846793005 + 1442695040888963407
	return int(uint64(*c)>>33) % n
}

// op is a call, mostly of a block that is live.
func (c *chance) op(m api.Model) api.Op {
	kinds := []int{api.Malloc, api.Malloc, api.Malloc, api.Calloc, api.Aligned, api.Realloc, api.Realloc, api.Free, api.Free, api.Free, api.Usable, api.Load, api.Load, api.Store, api.Store, api.Store, api.Trim, api.Figures, api.Free, c.below(16) - 2}
	o := api.Op{Kind: kinds[c.below(len(kinds))], P: c.below(m.C.H+2) - 1, B: byte(c.below(256))}
	if len(m.Blocks) > 0 && c.below(8) > 0 {
		o.P = m.Blocks[c.below(len(m.Blocks))].At
	}
	o.S = c.size(m.C)
	o.A = 1 << c.below(m.C.L+4)
	o.N = c.below(m.C.N+2) - 1
	if o.Kind == api.Calloc && c.below(3) > 0 {
		o.N, o.S = c.below(4), c.below(m.C.N/3+2)
	}
	if c.below(50) == 0 {
		wild := []int{least, greatest, -1, 3, 1 << 32}
		o.P, o.S, o.A, o.N = wild[c.below(5)], wild[c.below(5)], wild[c.below(5)], wild[c.below(5)]
	}
	return o
}

// size is mostly one that is charged any class with the like chance, else any up to N and a little beyond.
func (c *chance) size(of api.Conf) int {
	if c.below(4) == 0 {
		return c.below(of.N+3) - 1
	}
	return of.G << c.below(of.L+1) >> c.below(2)
}

// raw is what a small heap is asked for by; often there are fewer pages than could be met.
func (c *chance) raw() api.Raw {
	for {
		r := api.Raw{Granule: 1 + c.below(5), Largest: 1 + c.below(16), Limit: 1 + c.below(64), Page: 1 + c.below(16), Seed: c.below(256)}
		if of, e := conf.Of(r); e == api.OK && of.H <= 256 {
			r.Budget = c.below(of.H/of.Page + 3)
			return r
		}
	}
}

// mayTell is what the Kinds may be told.
var mayTell = map[int][]api.Errno{
	api.Malloc:  {api.OK, api.ESize, api.ELimit, api.ECommit},
	api.Calloc:  {api.OK, api.EArg, api.ESize, api.ELimit, api.ECommit},
	api.Aligned: {api.OK, api.EAlign, api.ESize, api.ELimit, api.ECommit},
	api.Realloc: {api.OK, api.EPtr, api.ESize, api.ELimit, api.ECommit},
	api.Free:    {api.OK, api.EPtr},
	api.Usable:  {api.OK, api.EPtr},
	api.Load:    {api.OK, api.EPtr, api.EBound},
	api.Store:   {api.OK, api.EPtr, api.EBound},
	api.Trim:    {api.OK},
	api.Figures: {api.OK},
	11:          {api.EArg},
}

// P17.2: many calls of many heaps are as said, and all that there is behind each; each Kind is told all that it may be, and nothing else.
func TestAsSaid(t *testing.T) {
	c := chance(17)
	var seen [12][10]int
	for range 300 {
		m := begin(t, c.raw())
		s := sayNew(m.C)
		for range 200 {
			o := c.op(m)
			var a api.Ans
			if m, a = holds(t, m, &s, o); o.Kind > 0 && o.Kind < len(seen) {
				seen[o.Kind][a.Err]++
			}
		}
	}
	for kind, may := range mayTell {
		for e, count := range seen[kind] {
			if among := slices.Contains(may, api.Errno(e)); among && count < 20 || !among && count > 0 {
				t.Errorf("kind %d was told %d %d times", kind, e, count)
			}
		}
	}
}

// P17.2: all rows of up to four calls of the least heaps are as said, with pages of one block, of two and of all, and with too few of them.
func TestAllRowsOfCalls(t *testing.T) {
	ops := []api.Op{malloc(1), malloc(2), calloc(1, 1), anew(0, 1), anew(0, 2), anew(1, 2), anew(2, 1), free(0), free(1), free(2), store(0, 0, 7), store(2, 1, 8), trim}
	for _, r := range []api.Raw{
		{Granule: 1, Largest: 2, Limit: 4, Page: 1, Budget: 6}, {Granule: 1, Largest: 2, Limit: 4, Page: 1, Budget: 3}, {Granule: 1, Largest: 2, Limit: 4, Page: 1, Budget: 2},
		{Granule: 1, Largest: 2, Limit: 4, Page: 2, Budget: 3}, {Granule: 1, Largest: 2, Limit: 4, Page: 2, Budget: 1},
	} {
		m := begin(t, r)
		allRows(t, m, sayNew(m.C), ops, 4)
	}
}

func allRows(t *testing.T, m api.Model, s said, ops []api.Op, depth int) {
	t.Helper()
	if depth == 0 {
		return
	}
	for _, o := range ops {
		then := s.again()
		next, _ := holds(t, m, &then, o)
		allRows(t, next, then, ops, depth-1)
	}
}

// P17.2: of models that are handed in as they are, not made by Do: blocks anywhere apart, any pages there, any bytes.
func TestAsSaidOfAny(t *testing.T) {
	c := chance(3)
	for range 3000 {
		of, _ := conf.Of(c.raw())
		s := sayNew(of)
		for at := 0; at < of.H; {
			if charge := of.G << c.below(of.L+1); c.below(3) == 0 && at+charge <= of.H && s.live()+charge <= of.M {
				s.charge[at], s.asked[at] = charge, c.below(charge+1)
				at += charge
			} else {
				at += of.G
			}
		}
		for page := range s.on {
			s.on[page] = c.below(2) == 0
		}
		for i := range s.mem {
			s.mem[i] = byte(c.below(256))
		}
		s.peak, s.mark = s.live()+c.below(2)*c.below(30), c.below(of.H+1)
		m := s.model()
		for range 12 {
			then := s.again()
			holds(t, m, &then, c.op(m))
		}
	}
}

// What follows: EPlace never is; blocks lie apart, each at a multiple of its size, within H; each ends at Ceil of its class or ahead of it, Mark is at most Ceil of the greatest class that was placed, and no more pages are there than that, or than there may be; all pages that are met are there.
func TestFollows(t *testing.T) {
	c := chance(5)
	for range 200 {
		m := begin(t, c.raw())
		top := 0
		for range 200 {
			next, a := do(t, m, c.op(m))
			if a.Err == api.EPlace {
				t.Fatalf("%+v", m)
			}
			m, top = next, max(top, liesWell(t, next))
			if m.Mark > top || m.Live > m.C.M || m.Peak < m.Live || m.Peak > m.C.M {
				t.Fatalf("%+v: ends at %d at most", m, top)
			}
			if pages := m.C.Page * countOn(m); pages > top || pages > m.C.P*m.C.Page {
				t.Fatalf("%+v: %d bytes there", m, pages)
			}
		}
	}
}

// liesWell asks if the blocks of m lie as they should, and tells Ceil of the greatest class there is.
func liesWell(t *testing.T, m api.Model) int {
	t.Helper()
	end, live, top := 0, 0, 0
	for _, b := range m.Blocks {
		class, ok := conf.Shift(m.C, b.Charge)
		if !ok || b.At%b.Charge != 0 || b.At < end || b.Asked < 0 || b.Asked > b.Charge || b.At+b.Charge > conf.Ceil(m.C, class) {
			t.Fatalf("%+v: %+v", m, b)
		}
		end, live, top = b.At+b.Charge, live+b.Charge, max(top, conf.Ceil(m.C, class))
		for i := b.At; i < end; i++ {
			if !m.On[i/m.C.Page] {
				t.Fatalf("%+v: byte %d is not there", m, i)
			}
		}
	}
	if live != m.Live || end > m.C.H {
		t.Fatalf("%+v", m)
	}
	return top
}

func countOn(m api.Model) int {
	count := 0
	for _, on := range m.On {
		if on {
			count++
		}
	}
	return count
}

// What follows: a byte is the one that was stored last, also where it was moved, whatever comes between.
func TestStoredStays(t *testing.T) {
	c := chance(11)
	for range 150 {
		m := begin(t, c.raw())
		held := map[[2]int]byte{}
		for range 200 {
			o := c.op(m)
			was := slices.Clone(m.Blocks)
			next, a := do(t, m, o)
			if m = next; a.Err == api.OK {
				remember(held, was, m, o, a)
			}
			for key, b := range held {
				if _, got := do(t, m, load(key[0], key[1])); got != is(b) {
					t.Fatalf("%+v: behind %+v: %+v, not %d at %v", m, o, got, b, key)
				}
			}
		}
	}
}

// remember keeps of each block and byte what was stored there, and what Calloc cleared.
func remember(held map[[2]int]byte, was []api.Block, m api.Model, o api.Op, a api.Ans) {
	switch o.Kind {
	case api.Store:
		held[[2]int{o.P, o.N}] = o.B
	case api.Calloc:
		for n := range chargeOf(m.Blocks, a.At) {
			held[[2]int{a.At, n}] = 0
		}
	case api.Free, api.Realloc:
		old := chargeOf(was, o.P)
		kept := map[int]byte{}
		for n := range old {
			if b, ok := held[[2]int{o.P, n}]; ok {
				kept[n] = b
			}
			delete(held, [2]int{o.P, n})
		}
		for n, b := range kept {
			if o.Kind == api.Realloc && n < chargeOf(m.Blocks, a.At) {
				held[[2]int{a.At, n}] = b
			}
		}
	}
}

func chargeOf(l []api.Block, at int) int {
	for _, b := range l {
		if b.At == at {
			return b.Charge
		}
	}
	return 0
}

// What follows: as many blocks of each class as there is room for, with of each place of the next one all but the lowest freed, drive Mark to Ceil of each class, in the end to H.
func TestJustSoHigh(t *testing.T) {
	for _, r := range []api.Raw{small(8), fine(4), {Granule: 1, Largest: 1, Limit: 1, Page: 1, Budget: 2}, {Granule: 1, Largest: 32, Limit: 64, Page: 4, Budget: 500}, {Granule: 4, Largest: 64, Limit: 300, Page: 1, Budget: 500}, {Granule: 8, Largest: 64, Limit: 100, Page: 32, Budget: 500}} {
		m := begin(t, r)
		for class := range m.C.L + 1 {
			size := m.C.G << class
			for _, b := range slices.Clone(m.Blocks) {
				if b.At%size != 0 {
					m = does(t, m, step{free(b.At), done})
				}
			}
			for m.Live+size <= m.C.M {
				next, a := do(t, m, malloc(size))
				if a.Err != api.OK {
					t.Fatalf("%+v: %+v", m, a)
				}
				m = next
			}
			if m.Mark != conf.Ceil(m.C, class) || m.Live != m.C.M {
				t.Errorf("%+v: class %d: Mark %d, Live %d", r, class, m.Mark, m.Live)
			}
		}
		if m.Mark != m.C.H {
			t.Errorf("%+v: Mark %d, not %d", r, m.Mark, m.C.H)
		}
	}
}
