package table_test

import (
	"cmp"
	"math"
	"slices"
	"testing"

	"pantile/api"
	"pantile/entry"
	"pantile/ram"
	"pantile/table"
	"pantile/walk"
)

// Numbers of all sorts: around 0, the ends of what there is, and of what a number can be.
var sorts = []int{
	math.MinInt, math.MinInt + 1, math.MinInt + 8, math.MinInt / 2, math.MinInt / 64, -1 << 32, -4096, -1024, -64, -8, -7, -3, -2, -1,
	0, 1, 2, 3, 4, 5, 6, 7, 8, 9, 16, 56, 63, 64, 65, 128, 511, 512, 1000, 1023, 1024, 1025, 4032, 4088, 4094, 4095, 4096, 4097, 4160,
	1 << 20, 1 << 32, 1 << 55, math.MaxInt / 64, math.MaxInt / 2, math.MaxInt - 63, math.MaxInt - 7, math.MaxInt - 1, math.MaxInt,
}

var orders = []int{0, 3, 6}

// junk is what stands in frames that are no tables: whoever takes it for a table goes astray.
const junk = 7<<12 | 1

// bag is a source: of its frames the last one is given first, and no frame is given that has not been taken back.
type bag struct {
	t    *testing.T
	r    *ram.Ram
	free []int
	out  map[int]int
	// how many frames it gives before it has an error (below 0: it has none), and which
	left int
	err  api.Errno
	// what is taken back is filled with junk
	spoil bool
}

func newBag(t *testing.T, r *ram.Ram, free ...int) *bag {
	b := &bag{t: t, r: r, free: free, out: map[int]int{}, left: -1, spoil: true}
	for _, frame := range free {
		b.fill(frame)
	}
	return b
}

func (b *bag) fill(frame int) {
	for at := frame * 64; at < frame*64+64; at += 8 {
		b.r.Store(at, junk)
	}
}

func (b *bag) Get() (int, api.Errno) {
	switch {
	case b.left == 0:
		return 3, b.err
	case len(b.free) == 0:
		return 3, api.ErrMem
	}
	b.left--
	frame := b.free[len(b.free)-1]
	b.free = b.free[:len(b.free)-1]
	b.out[frame]++
	return frame, api.OK
}

func (b *bag) Put(frame int) {
	if b.out[frame] != 1 {
		b.t.Errorf("the frame %d is given back, and was not given", frame)
	}
	delete(b.out, frame)
	b.free = append(b.free, frame)
	if b.spoil {
		b.fill(frame)
	}
}

// pair is tables, and what they should be: the leaves of each root, by rising pages.
type pair struct {
	t      *testing.T
	frames int
	r      *ram.Ram
	b      *bag
	x      *table.Tables
	m      map[int][]api.Mapped
}

// newPair makes tables in a memory of which all frames from one on are the source's.
func newPair(t *testing.T, frames, from int) pair {
	t.Helper()
	r, err := ram.New(frames)
	if r == nil || err != api.OK {
		t.Fatalf("ram.New(%d): %v, %d", frames, r, err)
	}
	for frame := range frames {
		r.Store(frame*64, uint64(frame)<<32|junk)
	}
	var free []int
	for frame := frames - 1; frame >= from; frame-- {
		free = append(free, frame)
	}
	b := newBag(t, r, free...)
	x, err := table.New(r, b)
	if x == nil || err != api.OK {
		t.Fatalf("New: %v, %d", x, err)
	}
	return pair{t, frames, r, b, x, map[int][]api.Mapped{}}
}

// words tells all of a memory.
func words(r *ram.Ram) []uint64 {
	var l []uint64
	for at := 0; at < r.Frames()*64; at += 8 {
		w, _ := r.Load(at)
		l = append(l, w)
	}
	return l
}

// covers tells whether a leaf is that of a page.
func covers(m api.Mapped, page int) bool { return m.Page <= page && page < m.Page+1<<m.Order }

// place says the errors that Map, Need, Unmap and Set have in common.
func (p pair) place(root, page, order int) api.Errno {
	_, ok := p.m[root]
	switch {
	case !ok:
		return api.ErrRange
	case !slices.Contains(orders, order):
		return api.ErrArg
	case page < 0 || page > 4095:
		return api.ErrRange
	case page%(1<<order) != 0:
		return api.ErrArg
	}
	return api.OK
}

// asLeaf says what an entry is as a leaf of an order, and whether it may be one.
func (p pair) asLeaf(e api.Entry, order int) (api.Entry, bool) {
	e.Huge = order != 0
	n := 1 << order
	is := e.Present && !e.Held || e.Held && !e.Present && !e.Write && order == 0
	return e, is && e.Frame >= 0 && e.Frame%n == 0 && e.Frame < p.frames && e.Frame+n <= p.frames
}

// tablesOf says how many tables stand above leaves.
func tablesOf(leaves []api.Mapped) int {
	seen := map[[2]int]int{}
	for _, m := range leaves {
		for level := 2; level >= m.Order/3; level-- {
			seen[[2]int{level, m.Page >> (3 * (level + 1))}]++
		}
	}
	return 1 + len(seen)
}

// with says the leaves, one of them more.
func with(leaves []api.Mapped, more ...api.Mapped) []api.Mapped {
	l := append(slices.Clone(leaves), more...)
	slices.SortFunc(l, func(x, y api.Mapped) int { return cmp.Compare(x.Page, y.Page) })
	return l
}

// without says the leaves that are not one of some pages'.
func without(leaves []api.Mapped, at, n int) []api.Mapped {
	return slices.DeleteFunc(slices.Clone(leaves), func(m api.Mapped) bool { return m.Page < at+n && at < m.Page+1<<m.Order })
}

// of says a page's leaf.
func (p pair) of(root, page int) (api.Mapped, bool) {
	i := slices.IndexFunc(p.m[root], func(m api.Mapped) bool { return covers(m, page) })
	if i < 0 {
		return api.Mapped{}, false
	}
	return p.m[root][i], true
}

// free says the source's answer to a call that asks it for n frames.
func (p pair) free(n int) api.Errno {
	switch {
	case p.b.left >= 0 && p.b.left < n && p.b.left <= len(p.b.free):
		return p.b.err
	case len(p.b.free) < n:
		return api.ErrMem
	}
	return api.OK
}

func (p pair) root() int {
	p.t.Helper()
	want := p.free(1)
	root, err := p.x.Root()
	if err != want || err != api.OK && root != 0 {
		p.t.Fatalf("Root: %d, %d; want the error %d", root, err, want)
	}
	if err == api.OK {
		if _, ok := p.m[root]; ok {
			p.t.Fatalf("Root: %d, a second time", root)
		}
		p.m[root] = nil
	}
	return root
}

// need says P8.2, of Need.
func (p pair) need(root, page, order int) (int, api.Errno) {
	if err := p.place(root, page, order); err != api.OK {
		return 0, err
	}
	leaves := p.m[root]
	if len(without(leaves, page, 1<<order)) != len(leaves) {
		return 0, api.ErrExist
	}
	return tablesOf(with(leaves, api.Mapped{Page: page, Order: order})) - tablesOf(leaves), api.OK
}

func (p pair) mapped(root, page, order int, e api.Entry) api.Errno {
	p.t.Helper()
	n, want := p.need(root, page, order)
	if got, err := p.x.Need(root, page, order); got != n || err != want {
		p.t.Fatalf("Need(%d, %d, %d) of %v: %d, %d; want %d, %d", root, page, order, p.m[root], got, err, n, want)
	}
	leaf, is := p.asLeaf(e, order)
	if !is && p.place(root, page, order) == api.OK {
		want = api.ErrArg
	}
	if want == api.OK {
		want = p.free(n)
	}
	if err := p.x.Map(root, page, order, e); err != want {
		p.t.Fatalf("Map(%d, %d, %d, %+v) of %v: %d, want %d", root, page, order, e, p.m[root], err, want)
	}
	if want == api.OK {
		p.m[root] = with(p.m[root], api.Mapped{Page: page, Order: order, Entry: leaf})
	}
	return want
}

func (p pair) unmap(root, page, order int) api.Errno {
	p.t.Helper()
	want := p.place(root, page, order)
	m, ok := p.of(root, page)
	if want == api.OK && (!ok || m.Order != order) {
		want = api.ErrNone
	}
	if want != api.OK {
		m.Entry = api.Entry{}
	}
	if e, err := p.x.Unmap(root, page, order); e != m.Entry || err != want {
		p.t.Fatalf("Unmap(%d, %d, %d) of %v: %+v, %d; want %+v, %d", root, page, order, p.m[root], e, err, m.Entry, want)
	}
	if want == api.OK {
		p.m[root] = without(p.m[root], page, 1)
	}
	return want
}

func (p pair) set(root, page, order int, e api.Entry) api.Errno {
	p.t.Helper()
	want := p.place(root, page, order)
	leaf, is := p.asLeaf(e, order)
	m, ok := p.of(root, page)
	switch {
	case want != api.OK:
	case !is:
		want = api.ErrArg
	case !ok || m.Order != order:
		want = api.ErrNone
	}
	if err := p.x.Set(root, page, order, e); err != want {
		p.t.Fatalf("Set(%d, %d, %d, %+v) of %v: %d, want %d", root, page, order, e, p.m[root], err, want)
	}
	if want == api.OK {
		p.m[root] = with(without(p.m[root], page, 1), api.Mapped{Page: page, Order: order, Entry: leaf})
	}
	return want
}

// part says which leaves a leaf becomes when it is split.
func part(m api.Mapped) []api.Mapped {
	var l []api.Mapped
	n := 1 << m.Order / 8
	for i := range 8 {
		e := m.Entry
		e.Frame += i * n
		e.Huge = n > 1
		l = append(l, api.Mapped{Page: m.Page + i*n, Order: m.Order - 3, Entry: e})
	}
	return l
}

func (p pair) split(root, page int) api.Errno {
	p.t.Helper()
	m, ok := p.of(root, page)
	want := p.free(1)
	switch _, is := p.m[root]; {
	case !is || page < 0 || page > 4095:
		want = api.ErrRange
	case !ok:
		want = api.ErrNone
	case m.Order == 0:
		want = api.ErrArg
	}
	if err := p.x.Split(root, page); err != want {
		p.t.Fatalf("Split(%d, %d) of %v: %d, want %d", root, page, p.m[root], err, want)
	}
	if want == api.OK {
		p.m[root] = with(without(p.m[root], page, 1), part(m)...)
	}
	return want
}

// together says the huge leaf that eight pages of a root become, or why there is none.
func (p pair) together(root, page int) (api.Mapped, api.Errno) {
	if _, is := p.m[root]; !is || page < 0 || page > 4095 {
		return api.Mapped{}, api.ErrRange
	}
	var l []api.Entry
	for i := range 8 {
		m, ok := p.of(root, page/8*8+i)
		if !ok || m.Order != 0 {
			return api.Mapped{}, api.ErrNone
		}
		l = append(l, m.Entry)
	}
	e := api.Entry{Frame: l[0].Frame, Present: true, Write: l[0].Write, Huge: true}
	right := e.Frame%8 == 0
	for i, x := range l {
		right = right && x.Present && x.Write == l[0].Write && x.Frame == l[0].Frame+i
		e.Used = e.Used || x.Used
		e.Dirty = e.Dirty || x.Dirty
	}
	if !right {
		return api.Mapped{}, api.ErrForm
	}
	return api.Mapped{Page: page / 8 * 8, Order: 3, Entry: e}, api.OK
}

func (p pair) merge(root, page int) api.Errno {
	p.t.Helper()
	m, want := p.together(root, page)
	if err := p.x.Merge(root, page); err != want {
		p.t.Fatalf("Merge(%d, %d) of %v: %d, want %d", root, page, p.m[root], err, want)
	}
	if want == api.OK {
		p.m[root] = with(without(p.m[root], m.Page, 8), m)
	}
	return want
}

func (p pair) drop(root int) api.Errno {
	p.t.Helper()
	want := api.ErrRange
	if _, is := p.m[root]; is {
		want = api.OK
	}
	if err := p.x.Drop(root); err != want {
		p.t.Fatalf("Drop(%d): %d, want %d", root, err, want)
	}
	delete(p.m, root)
	return want
}

// mark marks a leaf as a walk of an access does.
func (p pair) mark(root, page int, write bool) {
	m, ok := p.of(root, page)
	if !ok || walk.Mark(p.r, root, page, write) != api.OK {
		return
	}
	m.Entry.Used = true
	m.Entry.Dirty = m.Entry.Dirty || write
	p.m[root] = with(without(p.m[root], page, 1), m)
}

// rooted tells the roots, rising.
func (p pair) rooted() []int {
	var l []int
	for root := range p.frames {
		if _, ok := p.m[root]; ok {
			l = append(l, root)
		}
	}
	return l
}

// looks: Leaves, Count and the source are as they should be, and nothing but tables has changed.
func (p pair) looks() {
	p.t.Helper()
	all := 0
	for _, root := range p.rooted() {
		if l := p.x.Leaves(root); !slices.Equal(l, p.m[root]) {
			p.t.Fatalf("Leaves(%d): %v, want %v", root, l, p.m[root])
		}
		n := tablesOf(p.m[root])
		if got := p.x.Count(root); got != n {
			p.t.Fatalf("Count(%d) of %v: %d, want %d", root, p.m[root], got, n)
		}
		all += n
	}
	if len(p.b.out) != all {
		p.t.Fatalf("of the source are %d frames, there are %d tables", len(p.b.out), all)
	}
	sources := map[int]int{}
	for _, frame := range p.b.free {
		sources[frame]++
	}
	for frame := range p.frames {
		if w, _ := p.r.Load(frame * 64); sources[frame]+p.b.out[frame] == 0 && w != uint64(frame)<<32|junk {
			p.t.Fatalf("the frame %d, which is no table, has changed", frame)
		}
	}
}

// walks: each page's walk comes to what Leaves tells, through tables that are the source's, and its root's alone.
func (p pair) walks() {
	p.t.Helper()
	whose := map[int]int{}
	for _, root := range p.rooted() {
		above := map[int]int{}
		for page := range 4096 {
			m, ok := p.of(root, page)
			want, wantErr := api.Leaf{}, api.ErrNone
			if ok {
				want, wantErr = api.Leaf{Entry: m.Entry, Level: m.Order / 3, Frame: m.Entry.Frame + page - m.Page}, api.OK
			}
			if l, err := walk.Walk(p.r, root, page); l != want || err != wantErr {
				p.t.Fatalf("Walk(%d, %d): %+v, %d; want %+v, %d", root, page, l, err, want, wantErr)
			}
			path, _ := walk.Path(p.r, root, page)
			for _, table := range path {
				above[table]++
			}
		}
		if len(above) != tablesOf(p.m[root]) {
			p.t.Fatalf("walks from %d come through %d tables, of %d", root, len(above), tablesOf(p.m[root]))
		}
		for table := range above {
			whose[table]++
			if whose[table] > 1 || p.b.out[table] != 1 {
				p.t.Fatalf("the table %d is not of the root %d alone", table, root)
			}
		}
	}
}

func (p pair) same() {
	p.t.Helper()
	p.looks()
	p.walks()
}

// back: when all roots are dropped the source has all its frames.
func (p pair) back(n int) {
	p.t.Helper()
	for _, root := range p.rooted() {
		p.drop(root)
	}
	if len(p.b.out) != 0 || len(p.b.free) != n {
		p.t.Fatalf("the source has %d frames of %d", len(p.b.free), n)
	}
}

// unchanged: some calls change nothing, not in the memory either, nor in which order the source gives its frames.
func (p pair) unchanged(what string, calls func()) {
	p.t.Helper()
	p.b.spoil = false
	was, free := words(p.r), slices.Clone(p.b.free)
	calls()
	if !slices.Equal(words(p.r), was) {
		p.t.Fatalf("%s: the memory has changed", what)
	}
	if !slices.Equal(p.b.free, free) {
		p.t.Fatalf("%s: the source has %v, and had %v", what, p.b.free, free)
	}
	p.b.spoil = true
	p.looks()
}

// small is an entry of a page that may be written.
func small(frame int) api.Entry { return api.Entry{Frame: frame, Present: true, Write: true} }

// chance makes numbers in a row that always is the same.
type chance uint64

func (c *chance) below(n int) int {
	*c = *c*6364136223846793005 + 1442695040888963407
	return int(uint64(*c) >> 33 % uint64(n))
}

// The chapter's example.
func TestExample(t *testing.T) {
	p := newPair(t, 64, 40)
	root, err := p.x.Root()
	if err != api.OK || p.x.Count(root) != 1 || len(p.x.Leaves(root)) != 0 {
		t.Fatalf("Root: %d, %d; Count %d", root, err, p.x.Count(root))
	}
	if err := p.x.Map(root, 8, 3, small(16)); err != api.OK || p.x.Count(root) != 3 {
		t.Errorf("Map: %d, Count %d; want 3", err, p.x.Count(root))
	}
	if err := p.x.Split(root, 8); err != api.OK || p.x.Count(root) != 4 || len(p.x.Leaves(root)) != 8 {
		t.Errorf("Split: %d, Count %d, %v", err, p.x.Count(root), p.x.Leaves(root))
	}
	for page := 8; page < 16; page++ {
		if e, err := p.x.Unmap(root, page, 0); e != small(page+8) || err != api.OK {
			t.Errorf("Unmap(%d): %+v, %d", page, e, err)
		}
	}
	if p.x.Count(root) != 1 || len(p.b.out) != 1 {
		t.Errorf("Count %d, of the source %d", p.x.Count(root), len(p.b.out))
	}
}

// P8.1: New wants a memory and a source; there is no root then.
func TestNew(t *testing.T) {
	r, _ := ram.New(8)
	for _, x := range []struct {
		r *ram.Ram
		s table.Source
	}{{nil, nil}, {r, nil}, {nil, newBag(t, r)}} {
		if y, err := table.New(x.r, x.s); y != nil || err != api.ErrNil {
			t.Errorf("New(%v, %v): %v, %d; want nil, ErrNil", x.r, x.s, y, err)
		}
	}
	p := newPair(t, 8, 2)
	p.unchanged("New", func() {
		for root := -1; root <= 8; root++ {
			if err := p.x.Drop(root); err != api.ErrRange {
				t.Errorf("Drop(%d) of new tables: %d", root, err)
			}
		}
	})
	if len(p.b.out) != 0 {
		t.Errorf("New has got %d frames", len(p.b.out))
	}
}

// P8.1: each root is a frame of the source's, all its entries nothing, till the source has none; one that is dropped can be had again.
func TestRoot(t *testing.T) {
	p := newPair(t, 24, 8)
	for want := 8; want < 24; want++ {
		if root := p.root(); root != want {
			t.Errorf("Root: %d, want the source's frame %d", root, want)
		}
		for i := range 8 {
			if w, _ := p.r.Load(want*64 + i*8); w != 0 {
				t.Errorf("the entry %d of a new root is %#x", i, w)
			}
		}
		p.same()
	}
	p.unchanged("no frame left", func() {
		if root, err := p.x.Root(); root != 0 || err != api.ErrMem {
			t.Errorf("Root: %d, %d; want ErrMem", root, err)
		}
	})
	p.drop(13)
	if root := p.root(); root != 13 {
		t.Errorf("Root: %d, want 13 again", root)
	}
	p.same()
	p.back(16)
}

// The source's error is answered, whichever it is, and whatever else it says beside it.
func TestSourceErrors(t *testing.T) {
	for _, err := range []api.Errno{api.ErrMem, api.ErrBus, api.ErrNil, api.ErrArg, api.ErrExist, api.ErrBusy, 99, -1} {
		p := newPair(t, 128, 64)
		root := p.root()
		p.b.err = err
		p.b.left = 0
		p.unchanged("Root", func() {
			if got, e := p.x.Root(); got != 0 || e != err {
				t.Errorf("Root: %d, %d; want the error %d", got, e, err)
			}
		})
		for _, order := range orders {
			for left := range 3 - order/3 {
				p.b.left = left
				p.unchanged("Map", func() {
					if e := p.x.Map(root, 64, order, small(0)); e != err {
						t.Errorf("Map of the order %d after %d frames: %d, want %d", order, left, e, err)
					}
				})
			}
		}
		p.b.left = -1
		p.mapped(root, 64, 6, small(0))
		p.b.left = 0
		p.unchanged("Split", func() {
			if e := p.x.Split(root, 100); e != err {
				t.Errorf("Split: %d, want %d", e, err)
			}
		})
		// What needs no table asks no source.
		p.mapped(root, 128, 6, small(0))
		p.set(root, 128, 6, small(64))
		p.unmap(root, 128, 6)
		if p.merge(root, 64) != api.ErrNone || p.drop(root) != api.OK {
			t.Error("Merge, Drop")
		}
		p.back(64)
	}
}

// A source that gives what is no frame of the memory: nobody panics, and it is given back.
func TestSourceBeyond(t *testing.T) {
	for _, frame := range []int{math.MinInt, -1, 8, 9, 1024, math.MaxInt} {
		r, _ := ram.New(8)
		b := newBag(t, r, frame, 7, 6)
		b.spoil = false
		x, _ := table.New(r, b)
		root, _ := x.Root()
		was := words(r)
		if err := x.Map(root, 0, 0, small(0)); err != api.ErrRange || len(b.free) != 2 || x.Count(root) != 1 {
			t.Errorf("Map with the frame %d: %d, the source has %v", frame, err, b.free)
		}
		if !slices.Equal(words(r), was) {
			t.Errorf("the memory has changed by the frame %d", frame)
		}
		b.Get()
		if other, err := x.Root(); other != 0 || err != api.ErrRange {
			t.Errorf("Root with the frame %d: %d, %d", frame, other, err)
		}
	}
}

// P8.2: Map lays one leaf of each order at each place, with as many tables as lack, of which Need tells; Unmap takes all of it away.
func TestMapAlone(t *testing.T) {
	p := newPair(t, 256, 128)
	root := p.root()
	for i, order := range orders {
		for page := 0; page < 4096; page += 1 << order {
			frame := page % 128
			if n, err := p.x.Need(root, page, order); n != 3-i || err != api.OK {
				t.Fatalf("Need(%d, %d): %d, %d; want %d", page, order, n, err, 3-i)
			}
			if err := p.mapped(root, page, order, small(frame)); err != api.OK {
				t.Fatalf("Map(%d, %d): %d", page, order, err)
			}
			l, err := walk.Walk(p.r, root, page+1<<order-1)
			want := api.Leaf{Entry: api.Entry{Frame: frame, Present: true, Write: true, Huge: order > 0}, Level: i, Frame: frame + 1<<order - 1}
			if l != want || err != api.OK {
				t.Fatalf("Walk of the last page of Map(%d, %d): %+v, %d; want %+v", page, order, l, err, want)
			}
			if page%(37<<order) == 0 {
				p.same()
			} else if got := p.x.Count(root); got != 4-i {
				t.Fatalf("Count: %d, want %d", got, 4-i)
			}
			p.unmap(root, page, order)
			if p.x.Count(root) != 1 || len(p.b.out) != 1 || len(p.x.Leaves(root)) != 0 {
				t.Fatalf("after Unmap(%d, %d): Count %d, of the source %d", page, order, p.x.Count(root), len(p.b.out))
			}
		}
	}
	p.same()
	p.back(128)
}

// Words of tables are plain: Present, and the next table's frame; those of new tables are nothing but where the way goes.
func TestTableWords(t *testing.T) {
	p := newPair(t, 64, 48)
	root := p.root()
	const page = 5*512 + 2*64 + 7*8 + 3
	p.mapped(root, page, 0, api.Entry{Frame: 9, Held: true, Used: true})
	path, _ := walk.Path(p.r, root, page)
	if !slices.Equal(path, []int{48, 49, 50, 51}) {
		t.Fatalf("the tables are %v, not as they were got", path)
	}
	for depth, slot := range []int{5, 2, 7, 3} {
		for i := range 8 {
			want := uint64(0)
			if i == slot {
				want = uint64(depth+49)<<12 | 1
				if depth == 3 {
					want, _ = entry.Pack(api.Entry{Frame: 9, Held: true, Used: true})
				}
			}
			if w, _ := p.r.Load(path[depth]*64 + i*8); w != want {
				t.Errorf("the entry %d of the table of level %d is %#x, want %#x", i, 3-depth, w, want)
			}
		}
	}
}

// places calls a function with places of all sorts, most of which are wrong.
func (p pair) places(root int, call func(root, page, order int)) {
	for _, x := range append([]int{root, root - 1, root + 1}, sorts...) {
		for _, page := range sorts {
			for _, order := range []int{math.MinInt, -3, -1, 0, 1, 2, 3, 4, 5, 6, 7, 8, 9, 64, math.MaxInt} {
				call(x, page, order)
			}
		}
	}
}

// P8.2 and P8.3: the errors of places, in their order: roots, orders, pages, uneven ones; ahead of those of the entry, and of what is there.
func TestPlaces(t *testing.T) {
	p := newPair(t, 1024, 512)
	root := p.root()
	p.mapped(root, 64, 3, small(8))
	p.mapped(root, 4095, 0, small(1))
	wrong := 0
	p.unchanged("wrong places", func() {
		p.places(root, func(root, page, order int) {
			want := p.place(root, page, order)
			if want == api.OK {
				return
			}
			wrong++
			n, err := p.x.Need(root, page, order)
			if n != 0 || err != want {
				t.Errorf("Need(%d, %d, %d): %d, %d; want %d", root, page, order, n, err, want)
			}
			for _, e := range []api.Entry{{}, small(0), small(-1), {Held: true}} {
				if err := p.x.Map(root, page, order, e); err != want {
					t.Errorf("Map(%d, %d, %d, %+v): %d, want %d", root, page, order, e, err, want)
				}
				if err := p.x.Set(root, page, order, e); err != want {
					t.Errorf("Set(%d, %d, %d, %+v): %d, want %d", root, page, order, e, err, want)
				}
			}
			if e, err := p.x.Unmap(root, page, order); e != (api.Entry{}) || err != want {
				t.Errorf("Unmap(%d, %d, %d): %+v, %d; want %d", root, page, order, e, err, want)
			}
		})
	})
	if wrong < 1000 {
		t.Errorf("only %d places were wrong", wrong)
	}
}

// The order of the errors of a place, written out; the leaf stands at the page 8, of the order 3.
func TestPlacesWritten(t *testing.T) {
	p := newPair(t, 64, 32)
	root := p.root()
	p.mapped(root, 8, 3, small(8))
	for _, x := range []struct {
		root, page, order int
		mapped, unmapped  api.Errno
	}{
		{root + 1, -1, 1, api.ErrRange, api.ErrRange},
		{root, -1, 1, api.ErrArg, api.ErrArg},
		{root, 9, 2, api.ErrArg, api.ErrArg},
		{root, 8, -3, api.ErrArg, api.ErrArg},
		{root, 8, 9, api.ErrArg, api.ErrArg},
		{root, -1, 3, api.ErrRange, api.ErrRange},
		{root, 4096, 0, api.ErrRange, api.ErrRange},
		{root, 4097, 6, api.ErrRange, api.ErrRange},
		{root, 9, 3, api.ErrArg, api.ErrArg},
		{root, 8, 6, api.ErrArg, api.ErrArg},
		{root, 8, 3, api.ErrExist, api.OK},
		{root, 8, 0, api.ErrExist, api.ErrNone},
		{root, 15, 0, api.ErrExist, api.ErrNone},
		{root, 0, 6, api.ErrExist, api.ErrNone},
		{root, 0, 3, api.OK, api.ErrNone},
		{root, 0, 0, api.OK, api.ErrNone},
		{root, 16, 3, api.OK, api.ErrNone},
	} {
		if _, err := p.x.Need(x.root, x.page, x.order); err != x.mapped {
			t.Errorf("Need(%d, %d, %d): %d, want %d", x.root, x.page, x.order, err, x.mapped)
		}
		if x.mapped != api.OK {
			if err := p.x.Map(x.root, x.page, x.order, small(0)); err != x.mapped {
				t.Errorf("Map(%d, %d, %d): %d, want %d", x.root, x.page, x.order, err, x.mapped)
			}
		}
		frame := 8
		if x.order == 6 {
			frame = 0
		}
		if err := p.x.Set(x.root, x.page, x.order, small(frame)); err != x.unmapped {
			t.Errorf("Set(%d, %d, %d): %d, want %d", x.root, x.page, x.order, err, x.unmapped)
		}
		if x.unmapped != api.OK {
			if e, err := p.x.Unmap(x.root, x.page, x.order); e != (api.Entry{}) || err != x.unmapped {
				t.Errorf("Unmap(%d, %d, %d): %+v, %d; want %d", x.root, x.page, x.order, e, err, x.unmapped)
			}
		}
	}
	p.same()
}

// withBits tells an entry of a frame, of whose bits those of a number are on.
func withBits(frame, bits int) api.Entry {
	on := func(i int) bool { return bits>>i&1 == 1 }
	return api.Entry{Frame: frame, Present: on(0), Write: on(1), Huge: on(2), Held: on(3), Used: on(4), Dirty: on(5)}
}

// P8.2 and P8.3: every set of bits with frames at all edges of memories, as leaves of each order: ErrArg, or just that leaf, Huge as its order says.
func TestEntries(t *testing.T) {
	for _, frames := range []int{64, 65, 100, 127, 128, 1024} {
		p := newPair(t, frames, 24)
		root := p.root()
		at := []int{
			math.MinInt, -64, -8, -1, 0, 1, 4, 7, 8, 56, 60, 63, 64, 65, 1023, 1024, api.MaxEntry - 64, api.MaxEntry - 1, api.MaxEntry, 1 << 52, math.MaxInt - 63, math.MaxInt,
			frames - 64, frames - 9, frames - 8, frames - 7, frames - 1, frames, frames + 1, frames / 8 * 8, frames/8*8 - 8, frames / 64 * 64, frames/64*64 - 64,
		}
		for i, order := range orders {
			page := 512 + 64*i
			p.mapped(root, page, order, small(0))
			for bits := range 64 {
				for _, frame := range at {
					e := withBits(frame, bits)
					leaf, is := p.asLeaf(e, order)
					want := api.ErrArg
					if is {
						want = api.OK
					}
					if err := p.set(root, page, order, e); err != want {
						t.Fatalf("Set of %+v: %d, want %d", e, err, want)
					}
					if err := p.mapped(root, page+1024, order, e); err != want {
						t.Fatalf("Map of %+v: %d, want %d", e, err, want)
					}
					if is {
						if l, err := walk.Walk(p.r, root, page); l.Entry != leaf || err != api.OK {
							t.Fatalf("Walk after Set of %+v: %+v, %d", e, l, err)
						}
						p.unmap(root, page+1024, order)
					}
				}
			}
			p.same()
		}
		p.back(frames - 24)
	}
}

// The errors of entries, written out, in a memory of 70 frames: ahead of ErrExist, of ErrNone, and of the source's.
func TestEntriesWritten(t *testing.T) {
	p := newPair(t, 70, 66)
	root := p.root()
	p.mapped(root, 64, 0, small(0))
	p.b.left = 0
	p.b.err = api.ErrBusy
	for _, x := range []struct {
		order int
		e     api.Entry
		is    bool
	}{
		{0, api.Entry{}, false},
		{0, api.Entry{Frame: 5}, false},
		{0, api.Entry{Write: true}, false},
		{0, api.Entry{Frame: 5, Present: true}, true},
		{0, api.Entry{Frame: 5, Present: true, Huge: true}, true},
		{0, api.Entry{Frame: 69, Present: true}, true},
		{0, api.Entry{Frame: 70, Present: true}, false},
		{0, api.Entry{Frame: -1, Present: true}, false},
		{0, api.Entry{Frame: api.MaxEntry, Present: true}, false},
		{0, api.Entry{Frame: 5, Held: true}, true},
		{0, api.Entry{Frame: 5, Held: true, Huge: true}, true},
		{0, api.Entry{Frame: 5, Held: true, Used: true, Dirty: true}, true},
		{0, api.Entry{Frame: 70, Held: true}, false},
		{0, api.Entry{Frame: 5, Held: true, Write: true}, false},
		{0, api.Entry{Frame: 5, Held: true, Present: true}, false},
		{3, api.Entry{Frame: 8, Present: true}, true},
		{3, api.Entry{Frame: 8, Present: true, Huge: true, Write: true, Used: true, Dirty: true}, true},
		{3, api.Entry{Frame: 12, Present: true}, false},
		{3, api.Entry{Frame: 56, Present: true}, true},
		{3, api.Entry{Frame: 64, Present: true}, false},
		{3, api.Entry{Frame: -8, Present: true}, false},
		{3, api.Entry{Frame: 8, Held: true}, false},
		{3, api.Entry{Frame: 8, Held: true, Huge: true}, false},
		{3, api.Entry{Frame: 8, Held: true, Present: true}, false},
		{6, api.Entry{Present: true}, true},
		{6, api.Entry{Frame: 8, Present: true}, false},
		{6, api.Entry{Frame: 64, Present: true}, false},
		{6, api.Entry{Held: true}, false},
	} {
		exist, none, busy := api.ErrExist, api.ErrNone, api.ErrBusy
		if !x.is {
			exist, none, busy = api.ErrArg, api.ErrArg, api.ErrArg
		}
		p.unchanged("entries", func() {
			if err := p.x.Map(root, 64, x.order, x.e); err != exist {
				t.Errorf("Map of %+v, order %d, where a leaf is: %d, want %d", x.e, x.order, err, exist)
			}
			if err := p.x.Map(root, 1024, x.order, x.e); err != busy {
				t.Errorf("Map of %+v, order %d, without a source: %d, want %d", x.e, x.order, err, busy)
			}
			if err := p.x.Set(root, 128, x.order, x.e); err != none {
				t.Errorf("Set of %+v, order %d, where none is: %d, want %d", x.e, x.order, err, none)
			}
		})
	}
}

// P8.2 and P8.3: of two leaves of all orders at all sorts of places the second one stands only where the first one has no page; Need is right beside it; both go again.
func TestPairs(t *testing.T) {
	p := newPair(t, 128, 64)
	pages := []int{0, 1, 7, 8, 9, 15, 16, 56, 63, 64, 65, 72, 127, 128, 448, 504, 511, 512, 513, 576, 584, 4032, 4088, 4095}
	root := p.root()
	for _, first := range orders {
		for _, a := range pages {
			if a%(1<<first) != 0 {
				continue
			}
			for _, second := range orders {
				for _, b := range pages {
					if b%(1<<second) != 0 {
						continue
					}
					apart := a+1<<first <= b || b+1<<second <= a
					p.mapped(root, a, first, small(0))
					if err := p.mapped(root, b, second, small(0)); (err == api.OK) != apart {
						t.Fatalf("Map(%d, %d) beside (%d, %d): %d", b, second, a, first, err)
					}
					p.looks()
					// That one goes that was laid first, or both are one.
					if a != b || first != second {
						if err := p.unmap(root, b, second); (err == api.OK) != apart {
							t.Fatalf("Unmap(%d, %d) beside (%d, %d): %d", b, second, a, first, err)
						}
						p.looks()
					}
					p.unmap(root, a, first)
					p.looks()
				}
			}
		}
	}
	p.back(64)
}

// Tables go one by one, the last entry of each taking it along; the root stays.
func TestPruned(t *testing.T) {
	p := newPair(t, 128, 64)
	root := p.root()
	pages := []int{0, 1, 8, 64, 512, 513}
	for i, page := range pages {
		p.mapped(root, page, 0, small(i))
	}
	for i, x := range []struct{ page, count int }{{8, 9}, {0, 9}, {1, 7}, {513, 7}, {64, 4}, {512, 1}} {
		p.unmap(root, x.page, 0)
		if got := p.x.Count(root); got != x.count || len(p.b.out) != x.count {
			t.Errorf("%d: Count after Unmap(%d): %d, of the source %d; want %d", i, x.page, got, len(p.b.out), x.count)
		}
		p.same()
	}
	// A held leaf keeps its tables, too.
	p.mapped(root, 515, 0, small(3))
	p.mapped(root, 512, 0, api.Entry{Held: true})
	p.unmap(root, 515, 0)
	if got := p.x.Count(root); got != 4 {
		t.Errorf("Count with a held leaf: %d, want 4", got)
	}
	p.same()
	p.back(64)
}

// P8.3: only the leaf of that order that begins just there goes, or changes; Unmap answers what marks have made of it.
func TestJustThere(t *testing.T) {
	p := newPair(t, 256, 128)
	root := p.root()
	p.mapped(root, 0, 6, small(64))
	p.mapped(root, 64, 3, small(8))
	p.mapped(root, 72, 0, api.Entry{Frame: 3, Held: true})
	p.mapped(root, 73, 0, small(4))
	for _, order := range orders {
		for page := 0; page < 192; page += 1 << order {
			m, ok := p.of(root, page)
			if ok && m.Order == order {
				continue
			}
			p.unchanged("not there", func() {
				if err := p.unmap(root, page, order); err != api.ErrNone {
					t.Errorf("Unmap(%d, %d): %d", page, order, err)
				}
				if err := p.set(root, page, order, small(0)); err != api.ErrNone {
					t.Errorf("Set(%d, %d): %d", page, order, err)
				}
			})
		}
	}
	p.mark(root, 5, true)
	p.mark(root, 65, false)
	p.mark(root, 72, true)
	p.mark(root, 73, true)
	p.same()
	for _, x := range []struct {
		page, order int
		want        api.Entry
	}{
		{0, 6, api.Entry{Frame: 64, Present: true, Write: true, Huge: true, Used: true, Dirty: true}},
		{64, 3, api.Entry{Frame: 8, Present: true, Write: true, Huge: true, Used: true}},
		{72, 0, api.Entry{Frame: 3, Held: true}},
		{73, 0, api.Entry{Frame: 4, Present: true, Write: true, Used: true, Dirty: true}},
	} {
		if e, err := p.x.Unmap(root, x.page, x.order); e != x.want || err != api.OK {
			t.Errorf("Unmap(%d, %d): %+v, %d; want %+v", x.page, x.order, e, err, x.want)
		}
		p.m[root] = without(p.m[root], x.page, 1)
		p.same()
	}
	p.back(128)
}

// P8.3: Set changes one leaf, and no table.
func TestSet(t *testing.T) {
	p := newPair(t, 256, 128)
	root := p.root()
	p.mapped(root, 0, 6, small(64))
	p.mapped(root, 64, 3, small(8))
	p.mapped(root, 72, 0, small(3))
	p.b.left = 0
	for _, x := range []struct {
		page, order int
		e           api.Entry
	}{
		{72, 0, api.Entry{Frame: 3, Held: true}},
		{72, 0, api.Entry{Frame: 3, Present: true, Used: true}},
		{72, 0, api.Entry{Frame: 200, Present: true, Huge: true}},
		{64, 3, api.Entry{Frame: 16, Present: true, Dirty: true}},
		{64, 3, api.Entry{Frame: 248, Present: true, Huge: true}},
		{0, 6, api.Entry{Frame: 192, Present: true, Write: true, Used: true}},
	} {
		if err := p.set(root, x.page, x.order, x.e); err != api.OK {
			t.Errorf("Set(%d, %d, %+v): %d", x.page, x.order, x.e, err)
		}
		p.same()
	}
	p.back(128)
}

// P8.4 and P8.7: Split of each page of a huge and of a giant leaf, with all bits that a leaf may have: bits and frames are kept, page by page.
func TestSplit(t *testing.T) {
	for _, order := range []int{3, 6} {
		for page := 128; page < 128+1<<order; page++ {
			for bits := range 8 {
				p := newPair(t, 256, 128)
				root := p.root()
				e := api.Entry{Frame: 64, Present: true, Write: bits&1 > 0, Used: bits&2 > 0, Dirty: bits&4 > 0}
				p.mapped(root, 128, order, e)
				if err := p.split(root, page); err != api.OK {
					t.Fatalf("Split(%d): %d", page, err)
				}
				p.looks()
				for i := range 1 << order {
					l, err := walk.Walk(p.r, root, 128+i)
					prot := entry.Prot(e)
					if l.Frame != 64+i || l.Level != order/3-1 || entry.Prot(l.Entry) != prot || l.Entry.Used != e.Used || l.Entry.Dirty != e.Dirty || l.Entry.Huge != (order == 6) || err != api.OK {
						t.Fatalf("Split(%d): the page %d: %+v, %d", page, 128+i, l, err)
					}
				}
				if n := p.x.Count(root); n != 5-order/3 {
					t.Fatalf("Split(%d): Count %d", page, n)
				}
			}
		}
	}
}

// P8.4: a giant leaf is split into huge ones, and each of these into small ones; all go together again, as huge ones.
func TestSplitAll(t *testing.T) {
	p := newPair(t, 128, 64)
	root := p.root()
	p.mapped(root, 4032, 6, small(0))
	if err := p.split(root, 4090); err != api.OK || p.x.Count(root) != 3 || len(p.x.Leaves(root)) != 8 {
		t.Errorf("Split of a giant leaf: %d, Count %d, %v", err, p.x.Count(root), p.x.Leaves(root))
	}
	for page := 4032; page < 4096; page += 8 {
		for _, want := range []api.Errno{api.OK, api.ErrArg} {
			if err := p.split(root, page+5); err != want {
				t.Errorf("Split(%d): %d, want %d", page+5, err, want)
			}
		}
		p.same()
	}
	if n, l := p.x.Count(root), p.x.Leaves(root); n != 11 || len(l) != 64 {
		t.Errorf("Count %d, %d leaves; want 11, 64", n, len(l))
	}
	for page := 4095; page >= 4032; page -= 8 {
		if err := p.merge(root, page); err != api.OK {
			t.Errorf("Merge(%d): %d", page, err)
		}
		p.same()
	}
	if n, l := p.x.Count(root), p.x.Leaves(root); n != 3 || len(l) != 8 {
		t.Errorf("Count %d, %d leaves; want 3, 8", n, len(l))
	}
	// Eight huge leaves are none of eight pages.
	if err := p.merge(root, 4032); err != api.ErrNone {
		t.Errorf("Merge of huge leaves: %d", err)
	}
	p.back(64)
}

// P8.4: the errors of Split and Merge for roots and pages of all sorts.
func TestSplitMergeRange(t *testing.T) {
	p := newPair(t, 1024, 512)
	root := p.root()
	p.mapped(root, 64, 3, small(8))
	p.mapped(root, 4094, 0, small(1))
	p.unchanged("wrong roots and pages", func() {
		for _, x := range append([]int{root, root - 1, root + 1}, sorts...) {
			for _, page := range sorts {
				if x != root || page != 64 && page != 65 {
					p.split(x, page)
				}
				p.merge(x, page)
			}
		}
	})
	for _, x := range []struct {
		root, page   int
		split, merge api.Errno
	}{
		{root + 1, 64, api.ErrRange, api.ErrRange},
		{root, -1, api.ErrRange, api.ErrRange},
		{root, -8, api.ErrRange, api.ErrRange},
		{root, 4096, api.ErrRange, api.ErrRange},
		{root, math.MinInt, api.ErrRange, api.ErrRange},
		{root, math.MaxInt, api.ErrRange, api.ErrRange},
		{root, 0, api.ErrNone, api.ErrNone},
		{root, 63, api.ErrNone, api.ErrNone},
		{root, 72, api.ErrNone, api.ErrNone},
		{root, 4094, api.ErrArg, api.ErrNone},
		{root, 4095, api.ErrNone, api.ErrNone},
	} {
		if err := p.x.Split(x.root, x.page); err != x.split {
			t.Errorf("Split(%d, %d): %d, want %d", x.root, x.page, err, x.split)
		}
		if err := p.x.Merge(x.root, x.page); err != x.merge {
			t.Errorf("Merge(%d, %d): %d, want %d", x.root, x.page, err, x.merge)
		}
	}
	p.same()
}

// eight makes tables in which the pages from one on are small leaves on frames one behind the other.
func eight(t *testing.T, page, frame int, e api.Entry) (pair, int) {
	t.Helper()
	p := newPair(t, 128, 64)
	root := p.root()
	for i := range 8 {
		e.Frame = frame + i
		p.mapped(root, page+i, 0, e)
	}
	return p, root
}

// P8.4 and P8.7: Merge of eight leaves, asked of each of them, with every set of marks: Used (Dirty) if one was; what Split makes of it has the same frames.
func TestMerge(t *testing.T) {
	for _, write := range []bool{false, true} {
		for used := range 256 {
			p, root := eight(t, 640, 24, api.Entry{Present: true, Write: write})
			dirty := used * 37 % 256
			for i := range 8 {
				e := api.Entry{Frame: 24 + i, Present: true, Write: write, Used: used>>i&1 == 1, Dirty: dirty>>i&1 == 1}
				p.set(root, 640+i, 0, e)
			}
			if err := p.merge(root, 640+used%8); err != api.OK {
				t.Fatalf("Merge(%d): %d", 640+used%8, err)
			}
			p.looks()
			want := api.Mapped{Page: 640, Order: 3, Entry: api.Entry{Frame: 24, Present: true, Write: write, Huge: true, Used: used > 0, Dirty: dirty > 0}}
			if l := p.x.Leaves(root); !slices.Equal(l, []api.Mapped{want}) || p.x.Count(root) != 3 || len(p.b.out) != 3 {
				t.Fatalf("after Merge: %v, Count %d", l, p.x.Count(root))
			}
			for i := range 8 {
				if l, err := walk.Walk(p.r, root, 640+i); l.Frame != 24+i || l.Entry.Write != write || err != api.OK {
					t.Fatalf("after Merge the page %d: %+v, %d", 640+i, l, err)
				}
			}
			p.split(root, 640)
			p.same()
			p.back(64)
		}
	}
}

// P8.4: what is wrong with one of the eight, whichever: that it has no leaf, or is not like the others.
func TestMergeErrors(t *testing.T) {
	for i := range 8 {
		for _, x := range []struct {
			name string
			want api.Errno
			mar  func(p pair, root int)
		}{
			{"no leaf", api.ErrNone, func(p pair, root int) { p.unmap(root, 8+i, 0) }},
			{"held", api.ErrForm, func(p pair, root int) { p.set(root, 8+i, 0, api.Entry{Frame: 16 + i, Held: true}) }},
			{"for reading", api.ErrForm, func(p pair, root int) { p.set(root, 8+i, 0, api.Entry{Frame: 16 + i, Present: true}) }},
			{"another frame", api.ErrForm, func(p pair, root int) { p.set(root, 8+i, 0, small(40+i)) }},
			{"the next frame", api.ErrForm, func(p pair, root int) { p.set(root, 8+i, 0, small(17+i)) }},
			{"the frame ahead", api.ErrForm, func(p pair, root int) { p.set(root, 8+i, 0, small(15+i)) }},
			{"two change places", api.ErrForm, func(p pair, root int) {
				p.set(root, 8+i, 0, small(16+(i+1)%8))
				p.set(root, 8+(i+1)%8, 0, small(16+i))
			}},
			{"no leaf, and held", api.ErrNone, func(p pair, root int) {
				p.set(root, 8+i, 0, api.Entry{Frame: 16 + i, Held: true})
				p.unmap(root, 8+(i+5)%8, 0)
			}},
		} {
			p, root := eight(t, 8, 16, small(0))
			x.mar(p, root)
			p.unchanged(x.name, func() {
				for page := 8; page < 16; page++ {
					if err := p.x.Merge(root, page); err != x.want {
						t.Errorf("Merge(%d), of %d %s: %d, want %d", page, 8+i, x.name, err, x.want)
					}
				}
			})
		}
	}
}

// P8.4: eight frames one behind the other, from every frame on: only from an even one on they are a huge page; all held are none.
func TestMergeUneven(t *testing.T) {
	for frame := range 57 {
		p, root := eight(t, 16, frame, small(0))
		want := api.ErrForm
		if frame%8 == 0 {
			want = api.OK
		}
		if err := p.merge(root, 20); err != want {
			t.Errorf("Merge of the frames from %d on: %d, want %d", frame, err, want)
		}
		p.looks()
	}
	p, root := eight(t, 16, 16, api.Entry{Held: true})
	if err := p.merge(root, 16); err != api.ErrForm {
		t.Errorf("Merge of held pages: %d", err)
	}
	p, root = eight(t, 16, 16, api.Entry{Present: true})
	if err := p.merge(root, 16); err != api.OK {
		t.Errorf("Merge of pages for reading: %d", err)
	}
}

// P8.5: Leaves tells all by rising pages, however they were laid, in new memory.
func TestLeaves(t *testing.T) {
	p := newPair(t, 512, 128)
	root, other := p.root(), p.root()
	pages := []int{4095, 0, 8, 64, 128, 3, 7, 512, 576, 4032, 16, 2048, 584, 1, 65, 640}
	for i, page := range pages {
		for _, order := range []int{6, 3, 0} {
			if page%(1<<order) == 0 && i%3 >= order/3 {
				p.mapped(root, page, order, api.Entry{Frame: 64, Present: true, Used: i%2 == 0})
				break
			}
		}
	}
	p.same()
	l := p.x.Leaves(root)
	was := slices.Clone(l)
	for i := range l {
		l[i] = api.Mapped{Page: -1}
	}
	_ = append(l, api.Mapped{Page: -2})
	if again := p.x.Leaves(root); !slices.Equal(again, was) || len(was) < 10 {
		t.Errorf("Leaves: %v, ahead of it %v", again, was)
	}
	if l := p.x.Leaves(other); len(l) != 0 || p.x.Count(other) != 1 {
		t.Errorf("of a root without leaves: %v, Count %d", l, p.x.Count(other))
	}
	p.back(384)
}

// A whole space of small pages: all tables that there can be.
func TestFull(t *testing.T) {
	p := newPair(t, 1024, 100)
	root := p.root()
	for i := range 4096 {
		page := i * 1635 % 4096
		if err := p.x.Map(root, page, 0, small(page%100)); err != api.OK {
			t.Fatalf("Map(%d): %d", page, err)
		}
	}
	for page := range 4096 {
		p.m[root] = append(p.m[root], api.Mapped{Page: page, Entry: small(page % 100)})
	}
	p.looks()
	if n := p.x.Count(root); n != 1+8+64+512 {
		t.Errorf("Count: %d", n)
	}
	for page := 0; page < 4096; page += 8 {
		if page%3 != 0 {
			for i := range 8 {
				p.x.Unmap(root, page+i, 0)
			}
			p.m[root] = without(p.m[root], page, 8)
		}
	}
	p.looks()
	p.back(924)
}

// P8.5 and the roots' rule: what is no root has nothing, and gets nothing: a table below one, a dropped root, a root of other tables, numbers of all sorts.
func TestNoRoot(t *testing.T) {
	p := newPair(t, 1024, 512)
	root, gone := p.root(), p.root()
	p.mapped(root, 0, 0, small(1))
	p.mapped(gone, 0, 0, small(1))
	p.drop(gone)
	r, _ := ram.New(1024)
	x, _ := table.New(r, newBag(t, r, 700))
	far, _ := x.Root()
	if far != 700 {
		t.Fatalf("Root: %d", far)
	}
	path, _ := walk.Path(p.r, root, 0)
	none := append([]int{gone, far, root - 1, root + 1}, path[1:]...)
	for _, n := range sorts {
		if n != root {
			none = append(none, n)
		}
	}
	p.unchanged("no root", func() {
		for _, n := range none {
			if l := p.x.Leaves(n); len(l) != 0 {
				t.Errorf("Leaves(%d): %v", n, l)
			}
			if c := p.x.Count(n); c != 0 {
				t.Errorf("Count(%d): %d", n, c)
			}
			if k, err := p.x.Need(n, 0, 0); k != 0 || err != api.ErrRange {
				t.Errorf("Need(%d): %d, %d", n, k, err)
			}
			e, unmap := p.x.Unmap(n, 0, 0)
			for i, err := range []api.Errno{
				p.x.Map(n, 1, 0, small(2)), unmap, p.x.Set(n, 0, 0, small(2)), p.x.Split(n, 0), p.x.Merge(n, 0), p.x.Drop(n),
			} {
				if err != api.ErrRange || e != (api.Entry{}) {
					t.Errorf("%d of the root %d: %+v, %d; want ErrRange", i, n, e, err)
				}
			}
		}
	})
	p.same()
	p.drop(root)
	if err := p.x.Drop(root); err != api.ErrRange {
		t.Errorf("Drop a second time: %d", err)
	}
	p.back(512)
}

// Of nil tables: ErrNil ahead of all else; none, 0.
func TestNil(t *testing.T) {
	var x *table.Tables
	if root, err := x.Root(); root != 0 || err != api.ErrNil {
		t.Errorf("Root: %d, %d", root, err)
	}
	for _, root := range sorts {
		if l := x.Leaves(root); len(l) != 0 {
			t.Errorf("Leaves(%d): %v", root, l)
		}
		if n := x.Count(root); n != 0 {
			t.Errorf("Count(%d): %d", root, n)
		}
		if err := x.Drop(root); err != api.ErrNil {
			t.Errorf("Drop(%d): %d", root, err)
		}
		for _, page := range sorts {
			split, merge := x.Split(root, page), x.Merge(root, page)
			if split != api.ErrNil || merge != api.ErrNil {
				t.Errorf("Split, Merge(%d, %d): %d, %d", root, page, split, merge)
			}
			for _, order := range []int{math.MinInt, -1, 0, 1, 3, 6, 9, math.MaxInt} {
				n, need := x.Need(root, page, order)
				e, unmap := x.Unmap(root, page, order)
				mapped, set := x.Map(root, page, order, small(root)), x.Set(root, page, order, api.Entry{Frame: page})
				if n != 0 || e != (api.Entry{}) || need != api.ErrNil || unmap != api.ErrNil || mapped != api.ErrNil || set != api.ErrNil {
					t.Errorf("of (%d, %d, %d): %d, %d; %+v, %d; %d; %d", root, page, order, n, need, e, unmap, mapped, set)
				}
			}
		}
	}
}

// P8.5 and P8.8: Drop gives all tables of one root back, of no other one; what the source gives comes back in the order in which it gives them.
func TestDrop(t *testing.T) {
	p := newPair(t, 256, 64)
	free := slices.Clone(p.b.free)
	a, b := p.root(), p.root()
	for i, page := range []int{0, 7, 8, 64, 100, 512, 1000, 4095} {
		p.mapped(a, page, 0, small(i))
		p.mapped(b, page, 0, small(i+8))
	}
	p.mapped(a, 2048, 6, small(64))
	p.split(a, 2050)
	p.same()
	n := p.x.Count(b)
	if err := p.drop(a); err != api.OK || len(p.b.out) != n || p.x.Count(a) != 0 || len(p.x.Leaves(a)) != 0 {
		t.Errorf("Drop: %d, of the source %d, want %d", err, len(p.b.out), n)
	}
	p.same()
	p.drop(b)
	p.back(192)
	slices.Sort(free)
	slices.Sort(p.b.free)
	if !slices.Equal(p.b.free, free) {
		t.Errorf("the source has %v, and had %v", p.b.free, free)
	}
}

// Map and then Unmap, Drop: a source that gives first what it took last is as it was.
func TestSourceAsItWas(t *testing.T) {
	p := newPair(t, 128, 64)
	root := p.root()
	for _, order := range orders {
		free := slices.Clone(p.b.free)
		p.mapped(root, 1024, order, small(0))
		p.unmap(root, 1024, order)
		if !slices.Equal(p.b.free, free) {
			t.Errorf("of the order %d: the source has %v, and had %v", order, p.b.free, free)
		}
	}
	p.b.left = 2
	p.b.err = api.ErrMem
	p.unchanged("two of three", func() { p.mapped(root, 1024, 0, small(0)) })
}

// Two tables in one memory, each with its own source, do not see one another.
func TestTwo(t *testing.T) {
	r, _ := ram.New(64)
	one, two := newBag(t, r, 40, 41, 42, 43), newBag(t, r, 50, 51, 52, 53)
	x, _ := table.New(r, one)
	y, _ := table.New(r, two)
	a, _ := x.Root()
	b, _ := y.Root()
	if x.Map(a, 9, 0, small(1)) != api.OK || y.Map(b, 9, 0, small(2)) != api.OK {
		t.Error("Map")
	}
	if x.Drop(b) != api.ErrRange || y.Drop(a) != api.ErrRange || x.Count(b) != 0 || y.Count(a) != 0 {
		t.Error("the other's root")
	}
	if x.Drop(a) != api.OK || len(one.free) != 4 || len(two.free) != 0 {
		t.Errorf("Drop: %v, %v", one.free, two.free)
	}
	want := []api.Mapped{{Page: 9, Entry: small(2)}}
	if l := y.Leaves(b); !slices.Equal(l, want) {
		t.Errorf("Leaves: %v", l)
	}
}

// anyEntry tells an entry of an order, which mostly may be.
func anyEntry(c *chance, frames, order int) api.Entry {
	e := withBits(c.below(frames)>>order<<order, 1|c.below(32)<<1)
	e.Held = false
	switch c.below(12) {
	case 0, 1:
		e = api.Entry{Frame: e.Frame, Held: true, Used: c.below(2) == 0}
	case 2:
		e.Frame++
	case 3:
		return withBits(c.below(frames+9)-4, c.below(64))
	}
	return e
}

// anyPage tells a page of a few that lie near one another, mostly even.
func anyPage(c *chance, order int) int {
	page := []int{0, 512, 4032, 3584}[c.below(4)] + c.below(2)*64*c.below(2) + c.below(24)
	if c.below(12) == 0 {
		return page
	}
	return page % 4096 >> order << order
}

// row lays what lacks of eight small leaves, which could go together if those that are there are so, too.
func (p pair) row(c *chance, root, page int) api.Errno {
	p.t.Helper()
	frame, e := c.below(p.frames/8)*8, withBits(0, 1|c.below(4)<<4)
	for i := range 8 {
		e.Frame = frame + i
		if err := p.mapped(root, page/8*8+i, 0, e); err != api.OK {
			return api.OK
		}
	}
	return api.OK
}

// nearLeaf tells a page, mostly one that has a leaf.
func (p pair) nearLeaf(c *chance, root, page int) int {
	leaves := p.m[root]
	if len(leaves) == 0 || c.below(4) == 0 {
		return page
	}
	return leaves[c.below(len(leaves))].Page
}

// step does one call by chance.
func (p pair) step(c *chance) (string, api.Errno) {
	p.t.Helper()
	roots := append(p.rooted(), p.frames-1)
	root := roots[c.below(len(roots))]
	order := orders[c.below(8)*c.below(2)%3]
	page := anyPage(c, order)
	switch n := c.below(100); {
	case n < 2:
		want := p.free(1)
		p.root()
		return "Root", want
	case n < 4 && len(roots) > 4:
		return "Drop", p.drop(root)
	case n < 36:
		return "Map", p.mapped(root, page, order, anyEntry(c, p.frames, order))
	case n < 40:
		return "", p.row(c, root, page)
	case n < 55:
		return "Unmap", p.unmap(root, page, order)
	case n < 65:
		return "Set", p.set(root, page, order, anyEntry(c, p.frames, order))
	case n < 75:
		return "Split", p.split(root, page)
	case n < 85:
		return "Merge", p.merge(root, p.nearLeaf(c, root, page))
	case n < 95:
		p.mark(root, page, c.below(2) == 0)
		return "Mark", api.OK
	}
	p.b.left = c.below(6) - 1
	p.b.err = api.ErrBus
	return "", api.OK
}

// P8.1 to P8.8 in long rows of calls: what each answers, Leaves, Count and all walks are as they should be, with a source that now and then has an error, or no frame.
func TestChance(t *testing.T) {
	c := chance(11)
	seen := map[string]int{}
	for round := range 24 {
		frames := []int{80, 128, 200, 400}[round%4]
		p := newPair(t, frames, frames-[]int{8, 12, 60, 300}[round%4])
		n := len(p.b.free)
		for i := range 1000 {
			was := words(p.r)
			name, err := p.step(&c)
			seen[name+" "+err.Error()]++
			// Frames that a failed call has given back are filled with junk, as they were ahead of it.
			if err != api.OK && !slices.Equal(words(p.r), was) {
				t.Fatalf("%s with the error %d has changed the memory", name, err)
			}
			p.looks()
			if i%100 == 0 {
				p.walks()
			}
		}
		p.same()
		p.back(n)
	}
	for _, x := range []struct {
		name string
		errs []api.Errno
	}{
		{"Root", []api.Errno{api.OK, api.ErrMem, api.ErrBus}},
		{"Map", []api.Errno{api.OK, api.ErrRange, api.ErrArg, api.ErrExist, api.ErrMem, api.ErrBus}},
		{"Unmap", []api.Errno{api.OK, api.ErrRange, api.ErrArg, api.ErrNone}},
		{"Set", []api.Errno{api.OK, api.ErrRange, api.ErrArg, api.ErrNone}},
		{"Split", []api.Errno{api.OK, api.ErrRange, api.ErrArg, api.ErrNone, api.ErrMem, api.ErrBus}},
		{"Merge", []api.Errno{api.OK, api.ErrRange, api.ErrForm, api.ErrNone}},
		{"Drop", []api.Errno{api.OK, api.ErrRange}},
	} {
		for _, err := range x.errs {
			if seen[x.name+" "+err.Error()] < 10 {
				t.Errorf("%s came to %d only %d times", x.name, err, seen[x.name+" "+err.Error()])
			}
		}
	}
}
