package flat_test

import (
	"math"
	"runtime"
	"slices"
	"testing"

	"pantile/api"
	"pantile/area"
	"pantile/flat"
)

// Numbers of all sorts: around 0, blocks of eight and of 64 pages, the ends of spaces, of pages and of addresses, and of what a number can be.
var sorts = []int{
	math.MinInt, math.MinInt + 1, math.MinInt + 64, math.MinInt / 2, -1 << 32, -4096, -64, -8, -1,
	0, 1, 2, 3, 4, 5, 6, 7, 8, 9, 15, 16, 17, 63, 64, 65, 128, 512, 4031, 4032, 4088, 4095, 4096, 4097,
	262136, 262143, 262144, 262145, 262152, 1 << 32, 1<<32 + 1, 1<<32 + 8, math.MaxInt / 2, math.MaxInt - 63, math.MaxInt - 7, math.MaxInt - 1, math.MaxInt,
}

// The hows of areas of objects, and of those whose pages are a space's own.
var (
	ofObjects = []int{api.Shared, api.SharedHuge}
	ofSpaces  = []int{api.Private, api.OfHuge, api.OfGiant, api.LazyHuge}
)

// sizes: pages of one of an area's pages, by how.
var sizes = [7]int{1, 1, 1, 8, 64, 8, 8}

// words are a page's.
type words = [8]uint64

// model says the chapter's words of single pages: whoever sees the same page has the same pointer to its words.
type model struct {
	// By their numbers; nil: it has exited.
	lands   []*land
	objects int
}

// land is a space: its areas, and its pages' words; nil: the page is in no area.
type land struct {
	areas *area.Areas
	pages [4096]*words
}

// ofObject tells whether a page is in an area of an object.
func (l *land) ofObject(page int) bool {
	x, ok := l.areas.Find(page)
	return ok && slices.Contains(ofObjects, x.How)
}

// space tells a space, or nil.
func (m *model) space(n int) *land {
	if n < 0 || n >= len(m.lands) {
		return nil
	}
	return m.lands[n]
}

// add says what OSpawn and OFork have in common.
func (m *model) add(l *land) (uint64, api.Errno) {
	if len(m.lands) == 16 {
		return 0, api.ErrFull
	}
	m.lands = append(m.lands, l)
	return uint64(len(m.lands)) - 1, api.OK
}

// do says P13.1.
func (m *model) do(o api.Op) api.Result {
	if o.Kind < 1 || o.Kind > 10 {
		return api.Result{E: api.ErrArg}
	}
	if o.Kind == api.OSpawn {
		value, err := m.add(&land{areas: area.New()})
		return api.Result{E: err, Value: value}
	}
	l := m.space(o.Space)
	if l == nil {
		return api.Result{E: api.ErrSpace}
	}
	value, err := uint64(0), api.OK
	switch o.Kind {
	case api.OMap:
		value, err = m.mapped(l, o)
	case api.OUnmap:
		if _, err = l.areas.Unmap(o.At, o.N); err == api.OK {
			clear(l.pages[o.At : o.At+o.N])
		}
	case api.OProtect:
		_, err = l.areas.Protect(o.At, o.N, o.Prot)
	case api.OZap:
		err = l.zap(o.At, o.N)
	case api.OMove:
		if _, err = l.areas.Move(o.At, o.N, o.To); err == api.OK {
			copy(l.pages[o.To:], l.pages[o.At:o.At+o.N])
			clear(l.pages[o.At : o.At+o.N])
		}
	case api.OFork:
		value, err = m.add(l.copied())
	case api.OExit:
		m.lands[o.Space] = nil
	case api.OLoad:
		value, err = l.word(o.At, 1, 3)
	case api.OStore:
		if _, err = l.word(o.At, 3); err == api.OK {
			l.pages[o.At/64][o.At/8%8] = o.Value
		}
	}
	return api.Result{E: err, Value: value}
}

// mapped says what OMap does.
func (m *model) mapped(l *land, o api.Op) (uint64, api.Errno) {
	at, value := o.At, uint64(0)
	if at == 0 {
		size := 1
		if o.How >= 0 && o.How < len(sizes) {
			size = sizes[o.How]
		}
		if err := area.New().Map(size, o.N, o.How, o.Prot, 0); err != api.OK {
			return 0, err
		}
		at = size
		for at+o.N <= 4096 && slices.ContainsFunc(l.pages[at:at+o.N], func(p *words) bool { return p != nil }) {
			at += size
		}
		if at+o.N > 4096 {
			return 0, api.ErrFull
		}
		value = uint64(at)
	}
	object := 0
	if slices.Contains(ofObjects, o.How) {
		object = m.objects
	}
	if err := l.areas.Map(at, o.N, o.How, o.Prot, object); err != api.OK {
		return 0, err
	}
	if slices.Contains(ofObjects, o.How) {
		m.objects++
	}
	for i := range o.N {
		l.pages[at+i] = new(words)
	}
	return value, api.OK
}

// zap says what OZap does.
func (l *land) zap(at, n int) api.Errno {
	switch {
	case n < 1:
		return api.ErrArg
	case at < 1 || at > 4095 || n > 4096-at:
		return api.ErrRange
	case slices.Contains(l.pages[at:at+n], nil):
		return api.ErrNone
	case l.areas.Cuts(at, n):
		return api.ErrArg
	}
	for page := at; page < at+n; page++ {
		if !l.ofObject(page) {
			*l.pages[page] = words{}
		}
	}
	return api.OK
}

// copied says what OFork does.
func (l *land) copied() *land {
	c := &land{areas: l.areas.Copy()}
	for page, p := range l.pages {
		if _, ok := c.areas.Find(page); !ok {
			continue
		}
		if !l.ofObject(page) {
			own := *p
			p = &own
		}
		c.pages[page] = p
	}
	return c
}

// word tells the word at an address of a page that has one of some prots; of none of them: whatever it has.
func (l *land) word(at int, prots ...int) (uint64, api.Errno) {
	switch {
	case at < 0 || at >= 4096*64:
		return 0, api.ErrFault
	case at%8 != 0:
		return 0, api.ErrAlign
	}
	x, ok := l.areas.Find(at / 64)
	if !ok || len(prots) > 0 && !slices.Contains(prots, x.Prot) {
		return 0, api.ErrFault
	}
	return l.pages[at/64][at/8%8], api.OK
}

// pair is spaces, and what they should be.
type pair struct {
	t *testing.T
	f *flat.Flat
	m *model
}

// newPair does operations that answer OK.
func newPair(t *testing.T, l ...api.Op) pair {
	t.Helper()
	f := flat.New()
	if f == nil {
		t.Fatal("New: nil")
	}
	x := pair{t, f, &model{}}
	x.all(l...)
	return x
}

// all does operations, each of which answers OK.
func (x pair) all(l ...api.Op) {
	x.t.Helper()
	for i, o := range l {
		if r := x.do(o); r.E != api.OK {
			x.t.Fatalf("%d: Do(%+v): %d", i, o, r.E)
		}
	}
}

// do does an operation, and holds its result, and its space's areas, against the model's.
func (x pair) do(o api.Op) api.Result {
	x.t.Helper()
	r, want := x.f.Do(o), x.m.do(o)
	if r != want {
		x.t.Fatalf("Do(%+v): %+v, want %+v", o, r, want)
	}
	x.areas(o.Space)
	return r
}

// want does an operation that comes to what is said.
func (x pair) want(o api.Op, want api.Result) {
	x.t.Helper()
	if r := x.do(o); r != want {
		x.t.Errorf("Do(%+v): %+v, want %+v", o, r, want)
	}
}

// fails does an operation that answers an error, and holds all against the model.
func (x pair) fails(o api.Op, err api.Errno) {
	x.t.Helper()
	x.want(o, api.Result{E: err})
	x.same()
}

// load holds a word that may be loaded against what it should be.
func (x pair) load(space, at int, want uint64) {
	x.t.Helper()
	x.want(load(space, at), api.Result{Value: want})
}

// word holds a word against what it should be, whatever may be done with it.
func (x pair) word(space, at int, want uint64) {
	x.t.Helper()
	if value, err := x.f.Word(space, at); value != want || err != api.OK {
		x.t.Errorf("Word(%d, %d): %d, %d; want %d", space, at, value, err, want)
	}
}

func (x pair) areas(space int) {
	x.t.Helper()
	var want []api.Area
	if l := x.m.space(space); l != nil {
		want = l.areas.All()
	}
	if l := x.f.Areas(space); !slices.Equal(l, want) {
		x.t.Fatalf("Areas(%d): %v, want %v", space, l, want)
	}
	if n := x.f.Spaces(); n != len(x.m.lands) {
		x.t.Fatalf("Spaces: %d, want %d", n, len(x.m.lands))
	}
}

// look holds what Word tells of an address against the model's.
func (x pair) look(space, at int) {
	x.t.Helper()
	want, wantErr := uint64(0), api.ErrSpace
	if l := x.m.space(space); l != nil {
		want, wantErr = l.word(at)
	}
	if value, err := x.f.Word(space, at); value != want || err != wantErr {
		x.t.Fatalf("Word(%d, %d): %d, %d; want %d, %d", space, at, value, err, want, wantErr)
	}
}

// same asks of all spaces all areas and words; asking changes nothing.
func (x pair) same() {
	x.t.Helper()
	for n := range len(x.m.lands) + 2 {
		x.areas(n - 1)
		l := x.m.space(n - 1)
		if l == nil {
			x.look(n-1, 512)
			continue
		}
		for page, p := range l.pages {
			x.look(n-1, 64*page)
			for i := 1; p != nil && i < 8; i++ {
				x.look(n-1, 64*page+8*i)
			}
		}
	}
}

// fill stores in all words of a stretch that may be written, in each another one.
func (x pair) fill(space, at, n int, seed uint64) {
	x.t.Helper()
	for i := range 8 * n {
		x.do(store(space, 64*at+8*i, seed<<32+uint64(8*at+i)+1))
	}
}

// seen tells what Word says of all words of a stretch; of what is in no area 0.
func (x pair) seen(space, at, n int) []uint64 {
	var l []uint64
	for i := range 8 * n {
		value, _ := x.f.Word(space, 64*at+8*i)
		l = append(l, value)
	}
	return l
}

// spawn, and those below, are operations.
func spawn() api.Op { return api.Op{Kind: api.OSpawn} }

func lay(space, at, n, how, prot int) api.Op {
	return api.Op{Kind: api.OMap, Space: space, At: at, N: n, How: how, Prot: prot}
}

func unmap(space, at, n int) api.Op { return api.Op{Kind: api.OUnmap, Space: space, At: at, N: n} }

func protect(space, at, n, prot int) api.Op {
	return api.Op{Kind: api.OProtect, Space: space, At: at, N: n, Prot: prot}
}

func zap(space, at, n int) api.Op { return api.Op{Kind: api.OZap, Space: space, At: at, N: n} }

func move(space, at, n, to int) api.Op {
	return api.Op{Kind: api.OMove, Space: space, At: at, N: n, To: to}
}

func fork(space int) api.Op { return api.Op{Kind: api.OFork, Space: space} }

func exit(space int) api.Op { return api.Op{Kind: api.OExit, Space: space} }

func load(space, at int) api.Op { return api.Op{Kind: api.OLoad, Space: space, At: at} }

func store(space, at int, value uint64) api.Op {
	return api.Op{Kind: api.OStore, Space: space, At: at, Value: value}
}

// chance makes numbers in a row that always is the same.
type chance uint64

func (c *chance) below(n int) int {
	*c = *c*6364136223846793005 + 1442695040888963407
	return int(uint64(*c) >> 33 % uint64(n))
}

func (c *chance) of(l ...int) int { return l[c.below(len(l))] }

// The chapter's example, and what it comes to.
func TestExample(t *testing.T) {
	x := newPair(t)
	x.want(spawn(), api.Result{Value: 0})
	x.want(lay(0, 8, 4, api.Private, 3), api.Result{})
	x.want(store(0, 512, 7), api.Result{})
	x.load(0, 512, 7)
	x.want(fork(0), api.Result{Value: 1})
	x.want(store(1, 512, 9), api.Result{})
	x.load(0, 512, 7)
	x.load(1, 512, 9)
	want := []api.Area{{From: 8, To: 12, How: api.Private, Prot: 3}}
	if a, b := x.f.Areas(0), x.f.Areas(1); !slices.Equal(a, want) || !slices.Equal(b, want) {
		t.Errorf("Areas: %v and %v, want %v", a, b, want)
	}
	if n := x.f.Spaces(); n != 2 {
		t.Errorf("Spaces: %d, want 2", n)
	}
	x.same()
}

// P13.1, P13.2: of nil spaces.
func TestNil(t *testing.T) {
	var f *flat.Flat
	for _, a := range sorts {
		for _, b := range sorts {
			if r := f.Do(api.Op{Kind: a, Space: b, At: b, N: a, How: 1, Prot: 3, Value: 7}); r != (api.Result{E: api.ErrNil}) {
				t.Errorf("Do of kind %d, space %d: %+v, want ErrNil", a, b, r)
			}
			if value, err := f.Word(a, b); value != 0 || err != api.ErrNil {
				t.Errorf("Word(%d, %d): %d, %d; want ErrNil", a, b, value, err)
			}
		}
		if l := f.Areas(a); len(l) != 0 {
			t.Errorf("Areas(%d): %v, want none", a, l)
		}
	}
	if n := f.Spaces(); n != 0 {
		t.Errorf("Spaces: %d, want 0", n)
	}
}

// P13.1: a kind that is none is ErrArg, ahead of ErrSpace, and nothing is done.
func TestKinds(t *testing.T) {
	x := newPair(t, spawn(), lay(0, 8, 4, api.Private, 3), store(0, 512, 7))
	for _, kind := range append([]int{11, 12}, sorts...) {
		if kind >= 1 && kind <= 10 {
			continue
		}
		for _, space := range sorts {
			o := api.Op{Kind: kind, Space: space, At: 512, N: 1, How: 1, Prot: 3, To: 40, Value: 9}
			x.want(o, api.Result{E: api.ErrArg})
		}
	}
	x.same()
}

// P13.1, P13.2: where there is no space, or none any more, that is the first error; but OSpawn asks for none.
func TestNoSpace(t *testing.T) {
	x := newPair(t, spawn(), spawn(), spawn(), lay(1, 8, 4, api.Private, 3), store(1, 512, 7), exit(1))
	for _, space := range sorts {
		if space == 0 || space == 2 {
			continue
		}
		for kind := 2; kind <= 10; kind++ {
			for _, at := range []int{math.MinInt, -1, 0, 3, 8, 512, 513, 262144, math.MaxInt} {
				for _, n := range []int{math.MinInt, 0, 4, math.MaxInt} {
					o := api.Op{Kind: kind, Space: space, At: at, N: n, How: at, Prot: n, To: at, Value: 9}
					x.want(o, api.Result{E: api.ErrSpace})
				}
			}
		}
		for _, at := range sorts {
			if value, err := x.f.Word(space, at); value != 0 || err != api.ErrSpace {
				t.Errorf("Word(%d, %d): %d, %d; want ErrSpace", space, at, value, err)
			}
		}
		if l := x.f.Areas(space); len(l) != 0 {
			t.Errorf("Areas(%d): %v, want none", space, l)
		}
	}
	x.same()
	for i, space := range []int{math.MinInt, -1, 1, 3, 16, math.MaxInt} {
		x.want(api.Op{Kind: api.OSpawn, Space: space, At: space, N: space}, api.Result{Value: uint64(3 + i)})
	}
}

// P13.1, P13.2: sixteen spaces are made, and no more, whether those ahead are there or not.
func TestSixteen(t *testing.T) {
	for way := range 1 << 4 {
		x := newPair(t, spawn(), lay(0, 8, 4, api.Private, 3))
		for i := 1; i < 16; i++ {
			o := spawn()
			if way>>(i%2)&1 == 1 {
				o = fork(i - 1)
			}
			x.want(o, api.Result{Value: uint64(i)})
			if n := x.f.Spaces(); n != i+1 {
				t.Fatalf("Spaces: %d, want %d", n, i+1)
			}
			if way>>2&1 == 1 && i > 1 {
				x.all(exit(i - 2))
			}
		}
		if way>>3&1 == 1 {
			x.all(exit(15))
		}
		x.fails(spawn(), api.ErrFull)
		x.fails(fork(14), api.ErrFull)
		x.fails(fork(16), api.ErrSpace)
		if way>>2&1 == 1 {
			x.fails(fork(0), api.ErrSpace)
		}
		if n := x.f.Spaces(); n != 16 {
			t.Fatalf("Spaces: %d, want 16", n)
		}
	}
}

// P13.1: what OMap asks for, where it is told; Value is 0.
func TestMapEdges(t *testing.T) {
	for _, c := range []struct {
		at, n, how, prot int
		want             api.Errno
	}{
		{1, 1, api.Private, 3, api.OK},
		{1, 4095, api.Private, 0, api.ErrExist},
		{1, 99, api.Private, 0, api.OK},
		{1, 100, api.Private, 0, api.ErrExist},
		{108, 3988, api.Shared, 1, api.OK},
		{4095, 1, api.Shared, 0, api.OK},
		{4095, 1, api.Shared, 3, api.OK},
		{8, 8, api.OfHuge, 3, api.OK},
		{4088, 8, api.SharedHuge, 1, api.OK},
		{112, 8, api.LazyHuge, 3, api.OK},
		{4032, 64, api.OfGiant, 3, api.OK},
		{128, 3968, api.OfGiant, 1, api.OK},
		{100, 1, api.Private, 3, api.ErrExist},
		{107, 1, api.Shared, 3, api.ErrExist},
		{96, 8, api.OfHuge, 3, api.ErrExist},
		{64, 64, api.OfGiant, 3, api.ErrExist},
		{104, 8, api.SharedHuge, 3, api.ErrExist},
		{1, 1, 0, 3, api.ErrArg},
		{1, 1, 7, 3, api.ErrArg},
		{1, 1, -1, 3, api.ErrArg},
		{1, 1, math.MinInt, 3, api.ErrArg},
		{1, 1, math.MaxInt, 3, api.ErrArg},
		{1, 1, 1<<32 + 1, 3, api.ErrArg},
		{1, 1, api.Private, 2, api.ErrArg},
		{1, 1, api.Private, 4, api.ErrArg},
		{1, 1, api.Private, -1, api.ErrArg},
		{1, 1, api.Private, math.MaxInt, api.ErrArg},
		{1, 1, api.Shared, math.MinInt, api.ErrArg},
		{8, 8, api.OfHuge, 0, api.ErrArg},
		{64, 64, api.OfGiant, 0, api.ErrArg},
		{8, 8, api.SharedHuge, 0, api.ErrArg},
		{8, 8, api.LazyHuge, 0, api.ErrArg},
		{1, 0, api.Private, 3, api.ErrArg},
		{1, -1, api.Private, 3, api.ErrArg},
		{1, math.MinInt, api.Private, 3, api.ErrArg},
		{9, 8, api.OfHuge, 3, api.ErrArg},
		{8, 7, api.SharedHuge, 3, api.ErrArg},
		{8, 64, api.OfGiant, 3, api.ErrArg},
		{64, 8, api.OfGiant, 3, api.ErrArg},
		{-1, 1, api.Private, 3, api.ErrRange},
		{-8, 8, api.OfHuge, 3, api.ErrRange},
		{-64, 128, api.OfGiant, 3, api.ErrRange},
		{4096, 1, api.Private, 3, api.ErrRange},
		{4095, 2, api.Private, 3, api.ErrRange},
		{1, 4096, api.Shared, 3, api.ErrRange},
		{1, math.MaxInt, api.Private, 3, api.ErrRange},
		{math.MaxInt, 1, api.Private, 3, api.ErrRange},
		{math.MaxInt, math.MaxInt, api.Private, 3, api.ErrRange},
		{math.MinInt, 1, api.Private, 3, api.ErrRange},
		{math.MinInt, 8, api.OfHuge, 3, api.ErrRange},
		{4088, 16, api.LazyHuge, 3, api.ErrRange},
		{100, 4000, api.Private, 3, api.ErrRange},
		{4096, 1, api.Private, 2, api.ErrArg},
		{100, 0, api.Private, 3, api.ErrArg},
	} {
		x := newPair(t, spawn(), lay(0, 100, 8, api.Private, 3))
		x.fill(0, 100, 8, 5)
		x.want(lay(0, c.at, c.n, c.how, c.prot), api.Result{E: c.want})
		x.same()
	}
}

// P13.1: OMap with numbers of all sorts, At told and not, of spaces that are empty, taken in part, and full.
func TestMapSorts(t *testing.T) {
	for _, ops := range [][]api.Op{
		{spawn()},
		{spawn(), lay(0, 1, 7, api.Private, 3), lay(0, 9, 100, api.Shared, 1), lay(0, 4032, 64, api.OfGiant, 3)},
		{spawn(), lay(0, 1, 4095, api.Private, 3)},
	} {
		x := newPair(t, ops...)
		for _, at := range sorts {
			for _, n := range sorts {
				for _, how := range []int{math.MinInt, -1, 0, 1, 2, 3, 4, 5, 6, 7, 1 << 32, math.MaxInt} {
					for _, prot := range []int{math.MinInt, -1, 0, 1, 2, 3, 4, math.MaxInt} {
						r := x.do(lay(0, at, n, how, prot))
						if r.E == api.OK && at == 0 {
							x.all(unmap(0, int(r.Value), n))
						} else if r.E == api.OK {
							x.all(unmap(0, at, n))
						}
					}
				}
			}
		}
		x.same()
	}
}

// P13.1, P13.6: in a space with nothing in it an area stands at its first even page, up to as many pages as there are.
func TestAnywhereAlone(t *testing.T) {
	for how := 1; how <= 6; how++ {
		size := sizes[how]
		for _, n := range []int{size, 2 * size, 3 * size, 2048, 4096 - 2*size, 4096 - size} {
			x := newPair(t, spawn())
			x.want(lay(0, 0, n/size*size, how, 3), api.Result{Value: uint64(size)})
			x.same()
		}
		x := newPair(t, spawn())
		for _, n := range []int{4096, 4096 + size, 1 << 32, math.MaxInt &^ 63} {
			x.fails(lay(0, 0, n, how, 3), api.ErrRange)
		}
		for _, n := range []int{0, -1, -size, math.MinInt} {
			x.fails(lay(0, 0, n, how, 3), api.ErrArg)
		}
		if size > 1 {
			x.fails(lay(0, 0, size-1, how, 3), api.ErrArg)
			x.fails(lay(0, 0, size, how, 0), api.ErrArg)
		}
		x.fails(lay(0, 0, size, how, 2), api.ErrArg)
	}
	x := newPair(t, spawn())
	for _, how := range []int{math.MinInt, -1, 0, 7, 1 << 32, math.MaxInt} {
		x.fails(lay(0, 0, 8, how, 3), api.ErrArg)
	}
	x.want(lay(0, 0, 8, api.Private, 0), api.Result{Value: 1})
}

// P13.6: in all ways in which the first pages can be taken, areas stand at the first place that has room.
func TestAnywhereSmall(t *testing.T) {
	const first = 9
	for way := range 1 << first {
		x := newPair(t, spawn())
		for i := range first {
			if way>>i&1 == 1 {
				x.all(lay(0, 1+i, 1, api.Private, 3))
			}
		}
		for n := 1; n <= 7; n++ {
			want := 1
			for want <= first && way>>(want-1)&(1<<n-1) != 0 {
				want++
			}
			x.want(lay(0, 0, n, api.Shared, 1), api.Result{Value: uint64(want)})
			x.all(unmap(0, want, n))
		}
		for _, how := range []int{api.OfHuge, api.SharedHuge, api.LazyHuge} {
			want := 8
			if way>>7 != 0 {
				want = 16
			}
			x.want(lay(0, 0, 16, how, 3), api.Result{Value: uint64(want)})
			x.all(unmap(0, want, 16))
		}
		x.want(lay(0, 0, 64, api.OfGiant, 3), api.Result{Value: 64})
	}
}

// P13.6: huge and giant pages have room only where all of an even block is in no area, wherever a page lies in it.
func TestAnywhereGreat(t *testing.T) {
	for page := 1; page < 140; page++ {
		for n := 1; n <= 70; n += 23 {
			x := newPair(t, spawn(), lay(0, page, n, api.Private, 3))
			for how := 3; how <= 6; how++ {
				for many := range 3 {
					r := x.do(lay(0, 0, (1+many)*sizes[how], how, 3))
					if r.E != api.OK || int(r.Value)%sizes[how] != 0 {
						t.Fatalf("behind Map(%d, %d), how %d: %+v", page, n, how, r)
					}
					x.all(unmap(0, int(r.Value), (1+many)*sizes[how]))
				}
			}
		}
	}
}

// P13.1, P13.6: the last pages are room, too; where there is none, that is ErrFull, and nothing has changed.
func TestAnywhereEnd(t *testing.T) {
	for how := 1; how <= 6; how++ {
		size := sizes[how]
		x := newPair(t, spawn(), lay(0, 1, 4095-2*size, api.Private, 3))
		x.fails(lay(0, 0, 3*size, how, 3), api.ErrFull)
		x.fails(lay(0, 0, 4096-size, how, 3), api.ErrFull)
		x.fails(lay(0, 0, 4096, how, 3), api.ErrRange)
		x.fails(lay(0, 0, size, how, 2), api.ErrArg)
		x.want(lay(0, 0, size, how, 1), api.Result{Value: uint64(4096 - 2*size)})
		x.fails(lay(0, 0, 2*size, how, 1), api.ErrFull)
		x.want(lay(0, 0, size, how, 3), api.Result{Value: uint64(4096 - size)})
		x.fails(lay(0, 0, size, how, 3), api.ErrFull)
		x.same()
	}
	x := newPair(t, spawn(), lay(0, 1, 4032, api.Private, 3))
	x.fails(lay(0, 0, 64, api.OfGiant, 3), api.ErrFull)
	x.want(lay(0, 0, 56, api.OfHuge, 3), api.Result{Value: 4040})
	x.want(lay(0, 0, 7, api.Private, 1), api.Result{Value: 4033})
}

// P13.1: more than 64 areas there can't be, wherever the one more would be; objects' numbers are not used up by it.
func TestAreasFull(t *testing.T) {
	x := newPair(t, spawn())
	for i := range 64 {
		x.all(lay(0, 1+2*i, 1, api.Private, 3))
	}
	x.fill(0, 1, 128, 3)
	x.fails(lay(0, 0, 2, api.Private, 1), api.ErrFull)
	x.fails(lay(0, 0, 1, api.Shared, 3), api.ErrFull)
	x.fails(lay(0, 200, 1, api.Shared, 3), api.ErrFull)
	x.fails(lay(0, 0, 8, api.SharedHuge, 3), api.ErrFull)
	x.fails(lay(0, 0, 5000, api.SharedHuge, 3), api.ErrRange)
	x.want(lay(0, 0, 1, api.Private, 3), api.Result{Value: 2})
	x.want(lay(0, 0, 1, api.Shared, 3), api.Result{Value: 4})
	if y, l := (api.Area{From: 4, To: 5, How: api.Shared, Prot: 3}), x.f.Areas(0); !slices.Contains(l, y) {
		t.Errorf("Areas: %v, want %v among them", l, y)
	}
	x.same()
}

// P13.1: objects have numbers in the order of the OMaps that answered OK, whoever did them.
func TestObjects(t *testing.T) {
	x := newPair(t, spawn(), spawn())
	x.fails(lay(0, 8, 9, api.SharedHuge, 3), api.ErrArg)
	x.fails(lay(0, 4095, 2, api.Shared, 3), api.ErrRange)
	x.fails(lay(0, 0, 4096, api.Shared, 3), api.ErrRange)
	x.all(lay(0, 8, 8, api.Private, 3), lay(1, 8, 8, api.Shared, 3), lay(0, 16, 8, api.SharedHuge, 3))
	x.fails(lay(1, 15, 1, api.Shared, 3), api.ErrExist)
	x.all(unmap(1, 8, 8), lay(1, 8, 2, api.Shared, 1), lay(1, 10, 2, api.Shared, 1), fork(1))
	x.all(lay(2, 0, 1, api.Shared, 0), exit(2), lay(0, 0, 8, api.SharedHuge, 1))
	want := [][]api.Area{
		{{From: 8, To: 16, How: 1, Prot: 3}, {From: 16, To: 24, How: 5, Prot: 3, Object: 1}, {From: 24, To: 32, How: 5, Prot: 1, Object: 5}},
		{{From: 8, To: 10, How: 2, Prot: 1, Object: 2}, {From: 10, To: 12, How: 2, Prot: 1, Object: 3}},
	}
	for n, w := range want {
		if l := x.f.Areas(n); !slices.Equal(l, w) {
			t.Errorf("Areas(%d): %v, want %v", n, l, w)
		}
	}
	x.same()
}

// P13.1, P13.2: addresses, with the first of several errors.
func TestAddresses(t *testing.T) {
	x := newPair(t, spawn(), lay(0, 1, 2, api.Private, 3), lay(0, 3, 1, api.Private, 1), lay(0, 4, 1, api.Private, 0), lay(0, 4095, 1, api.Shared, 3))
	for _, c := range []struct {
		at                int
		load, store, word api.Errno
	}{
		{64, api.OK, api.OK, api.OK},
		{184, api.OK, api.OK, api.OK},
		{192, api.OK, api.ErrFault, api.OK},
		{248, api.OK, api.ErrFault, api.OK},
		{256, api.ErrFault, api.ErrFault, api.OK},
		{312, api.ErrFault, api.ErrFault, api.OK},
		{320, api.ErrFault, api.ErrFault, api.ErrFault},
		{262080, api.OK, api.OK, api.OK},
		{262136, api.OK, api.OK, api.OK},
		{262072, api.ErrFault, api.ErrFault, api.ErrFault},
		{0, api.ErrFault, api.ErrFault, api.ErrFault},
		{56, api.ErrFault, api.ErrFault, api.ErrFault},
		{1, api.ErrAlign, api.ErrAlign, api.ErrAlign},
		{63, api.ErrAlign, api.ErrAlign, api.ErrAlign},
		{65, api.ErrAlign, api.ErrAlign, api.ErrAlign},
		{68, api.ErrAlign, api.ErrAlign, api.ErrAlign},
		{71, api.ErrAlign, api.ErrAlign, api.ErrAlign},
		{193, api.ErrAlign, api.ErrAlign, api.ErrAlign},
		{260, api.ErrAlign, api.ErrAlign, api.ErrAlign},
		{324, api.ErrAlign, api.ErrAlign, api.ErrAlign},
		{262137, api.ErrAlign, api.ErrAlign, api.ErrAlign},
		{262143, api.ErrAlign, api.ErrAlign, api.ErrAlign},
		{262144, api.ErrFault, api.ErrFault, api.ErrFault},
		{262145, api.ErrFault, api.ErrFault, api.ErrFault},
		{262208, api.ErrFault, api.ErrFault, api.ErrFault},
		{-1, api.ErrFault, api.ErrFault, api.ErrFault},
		{-4, api.ErrFault, api.ErrFault, api.ErrFault},
		{-8, api.ErrFault, api.ErrFault, api.ErrFault},
		{-64, api.ErrFault, api.ErrFault, api.ErrFault},
		{1<<32 + 64, api.ErrFault, api.ErrFault, api.ErrFault},
		{math.MinInt, api.ErrFault, api.ErrFault, api.ErrFault},
		{math.MinInt + 64, api.ErrFault, api.ErrFault, api.ErrFault},
		{math.MaxInt, api.ErrFault, api.ErrFault, api.ErrFault},
		{math.MaxInt - 7, api.ErrFault, api.ErrFault, api.ErrFault},
	} {
		x.want(store(0, c.at, 77), api.Result{E: c.store})
		want := uint64(0)
		if c.store == api.OK {
			want = 77
		}
		x.want(load(0, c.at), api.Result{E: c.load, Value: want})
		if value, err := x.f.Word(0, c.at); value != want || err != c.word {
			t.Errorf("Word(0, %d): %d, %d; want %d, %d", c.at, value, err, want, c.word)
		}
		x.same()
	}
	for _, at := range sorts {
		x.do(store(0, at, 5))
		x.do(load(0, at))
		x.look(0, at)
	}
	x.same()
}

// P13.3: each word of all pages is one of its own, keeps all 64 bits, and is 0 at first.
func TestAllWords(t *testing.T) {
	for how := 1; how <= 6; how++ {
		at := sizes[how]
		x := newPair(t, spawn(), lay(0, at, 4096-at, how, 3))
		for a := 64 * at; a < 4096*64; a += 8 {
			x.load(0, a, 0)
			x.want(store(0, a, uint64(a)*0x9e3779b97f4a7c15), api.Result{})
		}
		for a := 64 * at; a < 4096*64; a += 8 {
			x.load(0, a, uint64(a)*0x9e3779b97f4a7c15)
			x.word(0, a, uint64(a)*0x9e3779b97f4a7c15)
		}
		for _, value := range []uint64{math.MaxUint64, 0, 1, 1 << 63, math.MaxInt64} {
			x.want(store(0, 64*at+8, value), api.Result{})
			x.load(0, 64*at+8, value)
		}
		x.same()
	}
}

// P13.1, P13.3: what Prot lets be done, of areas of all sorts, made so and protected so; the words stay.
func TestProt(t *testing.T) {
	for how := 1; how <= 6; how++ {
		at, n := sizes[how], sizes[how]
		x := newPair(t, spawn(), lay(0, at, n, how, 3))
		x.fill(0, at, n, 9)
		was := x.seen(0, at, n)
		for _, prot := range []int{1, 3, 0, 1, 0, 3, 1, 1} {
			if prot == 0 && n > 1 {
				x.fails(protect(0, at, n, 0), api.ErrArg)
				continue
			}
			x.all(protect(0, at, n, prot))
			if r := x.do(load(0, 64*at)); (r.E == api.OK) != (prot != 0) {
				t.Errorf("how %d, Prot %d, load: %+v", how, prot, r)
			}
			if r := x.do(store(0, 64*at, was[0])); (r.E == api.OK) != (prot == 3) {
				t.Errorf("how %d, Prot %d, store: %+v", how, prot, r)
			}
			if l := x.seen(0, at, n); !slices.Equal(l, was) {
				t.Errorf("how %d, Prot %d: %v, want %v", how, prot, l, was)
			}
		}
		for _, prot := range []int{0, 1, 3} {
			if prot == 0 && n > 1 {
				continue
			}
			y := newPair(t, spawn(), lay(0, at, n, how, prot))
			y.do(load(0, 64*at))
			y.do(store(0, 64*at, 8))
			y.same()
		}
	}
}

// P13.1: what OUnmap, OProtect, OZap and OMove ask for, with the first of several errors; nothing has changed then.
func TestStretches(t *testing.T) {
	const kinds = 4
	arg, rng, none, exist := api.ErrArg, api.ErrRange, api.ErrNone, api.ErrExist
	for _, c := range []struct {
		at, n, prot, to int
		// Of OUnmap, OProtect, OZap, OMove.
		want [kinds]api.Errno
	}{
		{8, 4, 1, 40, [kinds]api.Errno{0, 0, 0, 0}},
		{9, 2, 0, 4095, [kinds]api.Errno{0, 0, 0, rng}},
		{8, 6, 3, 4090, [kinds]api.Errno{0, 0, 0, 0}},
		{8, 4, 2, 40, [kinds]api.Errno{0, arg, 0, 0}},
		{8, 4, 3, 11, [kinds]api.Errno{0, 0, 0, arg}},
		{8, 4, 3, 8, [kinds]api.Errno{0, 0, 0, arg}},
		{8, 4, 3, 12, [kinds]api.Errno{0, 0, 0, exist}},
		{8, 4, 3, 21, [kinds]api.Errno{0, 0, 0, exist}},
		{8, 4, 3, 4, [kinds]api.Errno{0, 0, 0, 0}},
		{8, 4, 3, 0, [kinds]api.Errno{0, 0, 0, rng}},
		{8, 4, 3, -4, [kinds]api.Errno{0, 0, 0, rng}},
		{8, 4, 3, 4093, [kinds]api.Errno{0, 0, 0, rng}},
		{8, 4, 3, math.MaxInt, [kinds]api.Errno{0, 0, 0, rng}},
		{8, 4, 3, math.MinInt, [kinds]api.Errno{0, 0, 0, rng}},
		{7, 4, 3, 40, [kinds]api.Errno{0, none, none, none}},
		{7, 4, 3, 0, [kinds]api.Errno{0, none, none, rng}},
		{7, 4, 3, 8, [kinds]api.Errno{0, none, none, arg}},
		{13, 2, 3, 24, [kinds]api.Errno{0, none, none, none}},
		{200, 5, 3, 24, [kinds]api.Errno{0, none, none, none}},
		{1, 4095, 3, 24, [kinds]api.Errno{0, none, none, rng}},
		{24, 8, 3, 40, [kinds]api.Errno{0, 0, 0, arg}},
		{24, 8, 0, 40, [kinds]api.Errno{0, arg, 0, arg}},
		{24, 8, 3, 8, [kinds]api.Errno{0, 0, 0, arg}},
		{25, 7, 3, 40, [kinds]api.Errno{arg, arg, arg, arg}},
		{24, 7, 3, 40, [kinds]api.Errno{arg, arg, arg, arg}},
		{28, 1, 3, 40, [kinds]api.Errno{arg, arg, arg, arg}},
		{28, 6, 3, 40, [kinds]api.Errno{arg, none, none, none}},
		{20, 8, 3, 40, [kinds]api.Errno{arg, none, none, none}},
		{64, 64, 1, 400, [kinds]api.Errno{0, 0, 0, arg}},
		{72, 8, 1, 400, [kinds]api.Errno{arg, arg, arg, arg}},
		{128, 8, 1, 400, [kinds]api.Errno{0, 0, 0, arg}},
		{136, 8, 1, 400, [kinds]api.Errno{0, 0, 0, arg}},
		{120, 16, 1, 400, [kinds]api.Errno{arg, arg, arg, arg}},
		{64, 80, 1, 400, [kinds]api.Errno{0, 0, 0, arg}},
		{8, 0, 3, 40, [kinds]api.Errno{arg, arg, arg, arg}},
		{8, -1, 3, 40, [kinds]api.Errno{arg, arg, arg, arg}},
		{8, math.MinInt, 3, 40, [kinds]api.Errno{arg, arg, arg, arg}},
		{0, 0, 3, 40, [kinds]api.Errno{arg, arg, arg, arg}},
		{0, 1, 3, 40, [kinds]api.Errno{rng, rng, rng, rng}},
		{-1, 4, 3, 40, [kinds]api.Errno{rng, rng, rng, rng}},
		{0, 12, 2, 40, [kinds]api.Errno{rng, rng, rng, rng}},
		{4096, 1, 3, 40, [kinds]api.Errno{rng, rng, rng, rng}},
		{4095, 2, 3, 40, [kinds]api.Errno{rng, rng, rng, rng}},
		{28, 4090, 3, 40, [kinds]api.Errno{rng, rng, rng, rng}},
		{8, math.MaxInt, 3, 40, [kinds]api.Errno{rng, rng, rng, rng}},
		{math.MaxInt, 1, 3, 40, [kinds]api.Errno{rng, rng, rng, rng}},
		{math.MaxInt, math.MaxInt, 3, 40, [kinds]api.Errno{rng, rng, rng, rng}},
		{math.MinInt, 1, 3, 40, [kinds]api.Errno{rng, rng, rng, rng}},
		{math.MinInt, math.MaxInt, 3, 40, [kinds]api.Errno{rng, rng, rng, rng}},
		{math.MinInt, math.MinInt, 3, 40, [kinds]api.Errno{arg, arg, arg, arg}},
	} {
		for i, o := range []api.Op{unmap(0, c.at, c.n), protect(0, c.at, c.n, c.prot), zap(0, c.at, c.n), move(0, c.at, c.n, c.to)} {
			x := newPair(t, spawn(), lay(0, 8, 4, api.Private, 3), lay(0, 12, 2, api.Shared, 3), lay(0, 20, 2, api.Private, 1))
			x.all(lay(0, 24, 8, api.OfHuge, 3), lay(0, 64, 64, api.OfGiant, 3), lay(0, 128, 8, api.LazyHuge, 3), lay(0, 136, 8, api.SharedHuge, 3), fork(0))
			for _, page := range []int{8, 12, 20, 24, 31, 64, 127, 128, 136, 143} {
				x.fill(0, page, 1, 4)
			}
			x.want(o, api.Result{E: c.want[i]})
			x.same()
		}
	}
}

// P13.1: OUnmap, OProtect, OZap and OMove with numbers of all sorts.
func TestStretchSorts(t *testing.T) {
	build := func() pair {
		x := newPair(t, spawn(), lay(0, 1, 8, api.Private, 3), lay(0, 9, 7, api.Shared, 3), lay(0, 16, 48, api.SharedHuge, 3), lay(0, 64, 64, api.OfGiant, 3), lay(0, 4090, 6, api.Private, 3))
		for _, page := range []int{1, 2, 8, 9, 15, 16, 64, 127, 4090, 4095} {
			x.fill(0, page, 1, 1)
		}
		return x
	}
	x, done := build(), 0
	for _, at := range sorts {
		for _, n := range sorts {
			for i, more := range []int{math.MinInt, -1, 0, 1, 2, 3, 4, 8, 128, 200, 4089, 4095, 4096, math.MaxInt} {
				ops := []api.Op{protect(0, at, n, more), move(0, at, n, more)}
				if i == 0 {
					ops = append(ops, unmap(0, at, n), zap(0, at, n))
				}
				for _, o := range ops {
					if x.do(o).E != api.OK {
						continue
					}
					if done++; done%5 == 0 {
						x.same()
					}
					x = build()
				}
			}
		}
	}
	x.same()
}

// P13.1, P13.3: unmapped words are forgotten: what is mapped there anew is 0, alone or joined with what was left.
func TestUnmap(t *testing.T) {
	for how := 1; how <= 6; how++ {
		size := sizes[how]
		for _, again := range []int{1, 2, 3, 4, 5, 6} {
			x := newPair(t, spawn(), lay(0, 64, 256, how, 3))
			x.fill(0, 64, 256, 6)
			from, n := 64+max(size, sizes[again]), max(size, sizes[again])
			x.all(unmap(0, from, n))
			x.same()
			x.want(load(0, 64*from), api.Result{E: api.ErrFault})
			x.all(lay(0, from, n, again, 3))
			x.same()
			if l := x.seen(0, from, n); slices.Max(l) != 0 {
				t.Fatalf("how %d, then %d: %v, want 0", how, again, l)
			}
			if l := x.seen(0, 64, from-64); slices.Min(l) == 0 {
				t.Fatalf("how %d, then %d: %v ahead, want none 0", how, again, l)
			}
			x.all(unmap(0, 1, 4095))
			x.want(lay(0, 0, 4096-sizes[again], again, 3), api.Result{Value: uint64(sizes[again])})
			x.same()
		}
	}
}

// P13.1, P13.3: zapped own words are 0, those of objects stay, whatever may be done with the pages; others' stay all.
func TestZap(t *testing.T) {
	for how := 1; how <= 6; how++ {
		for _, prot := range []int{0, 1, 3} {
			size := sizes[how]
			if prot == 0 && size > 1 {
				continue
			}
			x := newPair(t, spawn(), lay(0, 64, 4*size, how, 3))
			x.fill(0, 64, 4*size, 6)
			was := x.seen(0, 64, 4*size)
			x.all(fork(0), protect(0, 64, 4*size, prot), zap(0, 64+size, 2*size))
			x.same()
			want := slices.Clone(was)
			if slices.Contains(ofSpaces, how) {
				clear(want[8*size : 8*3*size])
			}
			if l := x.seen(0, 64, 4*size); !slices.Equal(l, want) {
				t.Fatalf("how %d, Prot %d: %v, want %v", how, prot, l, want)
			}
			if l := x.seen(1, 64, 4*size); how <= 2 && !slices.Equal(l, was) {
				t.Fatalf("how %d, Prot %d, the other one: %v, want %v", how, prot, l, was)
			}
			x.all(protect(0, 64, 4*size, 3), store(0, 64*(64+size), 99))
			x.load(0, 64*(64+size), 99)
			x.same()
		}
	}
	x := newPair(t, spawn(), lay(0, 8, 2, api.Private, 3), lay(0, 10, 2, api.Shared, 3), lay(0, 12, 2, api.Private, 3))
	x.fill(0, 8, 6, 2)
	x.all(zap(0, 9, 4))
	x.same()
	for at, want := range map[int]uint64{8 * 64: 2<<32 + 65, 9 * 64: 0, 10 * 64: 2<<32 + 81, 11 * 64: 2<<32 + 89, 12 * 64: 0, 13 * 64: 2<<32 + 105} {
		x.load(0, at, want)
	}
}

// P13.1, P13.3: own words go with their pages, objects' are where their pages are; what comes anew where they were is 0.
func TestMove(t *testing.T) {
	for _, how := range []int{api.Private, api.Shared} {
		for _, to := range []int{1, 6, 14, 18, 26, 27, 100, 4091} {
			x := newPair(t, spawn(), lay(0, 20, 6, how, 3), protect(0, 22, 1, 1), protect(0, 23, 1, 0), protect(0, 20, 6, 3))
			x.fill(0, 20, 6, 3)
			was := x.seen(0, 20, 6)
			x.all(protect(0, 22, 1, 1), protect(0, 23, 1, 0), fork(0))
			const n = 5
			if to == 18 {
				x.fails(move(0, 21, n, to), api.ErrArg)
				continue
			}
			x.all(move(0, 21, n, to))
			x.same()
			if l := x.seen(0, to, n); !slices.Equal(l, was[8:]) {
				t.Fatalf("how %d, to %d: %v, want %v", how, to, l, was[8:])
			}
			if l := x.seen(1, 20, 6); !slices.Equal(l, was) {
				t.Fatalf("how %d, to %d, the other one: %v, want %v", how, to, l, was)
			}
			x.want(load(0, 21*64), api.Result{E: api.ErrFault})
			x.all(protect(0, to, n, 3))
			x.fill(0, to, n, 8)
			x.same()
			x.all(lay(0, 21, 4, api.Private, 3))
			if l := x.seen(0, 21, 4); slices.Max(l) != 0 {
				t.Fatalf("how %d, to %d: %v where it was, want 0", how, to, l)
			}
			x.same()
		}
	}
}

// P13.3: a page that goes through all others takes its words along, and leaves nothing.
func TestMoveOn(t *testing.T) {
	x := newPair(t, spawn(), lay(0, 1, 1, api.Private, 3), lay(0, 2, 1, api.Shared, 3))
	x.fill(0, 1, 2, 1)
	private, shared := x.seen(0, 1, 1), x.seen(0, 2, 1)
	for page := 2; page < 4095; page++ {
		x.all(move(0, page, 1, page+1), move(0, page-1, 1, page))
		if page%100 == 0 {
			x.same()
		}
	}
	if l := x.seen(0, 4094, 2); !slices.Equal(l, append(private, shared...)) {
		t.Errorf("%v, want %v, %v", l, private, shared)
	}
	x.all(lay(0, 1, 4093, api.Private, 3))
	x.same()
}

// P13.4: a copy reads the same, but has no huge pages that were the space's own; what comes where they were is 0 in it.
func TestFork(t *testing.T) {
	x := newPair(t, spawn(), lay(0, 8, 8, api.Private, 3), lay(0, 16, 8, api.Shared, 3), lay(0, 24, 8, api.OfHuge, 3))
	x.all(lay(0, 32, 8, api.SharedHuge, 3), lay(0, 40, 8, api.LazyHuge, 3), lay(0, 64, 64, api.OfGiant, 3))
	x.fill(0, 8, 40, 1)
	x.fill(0, 64, 64, 1)
	was := x.seen(0, 8, 120)
	x.all(protect(0, 10, 2, 1), protect(0, 18, 2, 0))
	x.want(fork(0), api.Result{Value: 1})
	x.same()
	want := []api.Area{
		{From: 8, To: 10, How: 1, Prot: 3}, {From: 10, To: 12, How: 1, Prot: 1}, {From: 12, To: 16, How: 1, Prot: 3},
		{From: 16, To: 18, How: 2, Prot: 3}, {From: 18, To: 20, How: 2, Off: 2}, {From: 20, To: 24, How: 2, Prot: 3, Off: 4},
		{From: 32, To: 40, How: 5, Prot: 3, Object: 1},
	}
	if l := x.f.Areas(1); !slices.Equal(l, want) {
		t.Errorf("Areas(1): %v, want %v", l, want)
	}
	for _, page := range []int{8, 16, 32} {
		if l, w := x.seen(1, page, 8), was[8*(page-8):8*page]; !slices.Equal(l, w) {
			t.Errorf("of the copy, from %d on: %v, want %v", page, l, w)
		}
	}
	for _, page := range []int{24, 40, 64, 127} {
		x.want(load(1, 64*page), api.Result{E: api.ErrFault})
	}
	for _, again := range [][]int{{api.OfHuge, api.LazyHuge, api.OfGiant}, {api.Private, api.Shared, api.Private}, {api.LazyHuge, api.SharedHuge, api.OfGiant}} {
		x.all(lay(1, 24, 8, again[0], 3), lay(1, 40, 8, again[1], 3), lay(1, 64, 64, again[2], 3))
		x.same()
		for _, page := range []int{24, 40, 64, 120} {
			if l := x.seen(1, page, 8); slices.Max(l) != 0 {
				t.Errorf("of the copy, from %d on anew: %v, want 0", page, l)
			}
		}
		x.fill(1, 24, 104, 5)
		x.all(unmap(1, 24, 8), unmap(1, 40, 8), unmap(1, 64, 64))
	}
	for i, page := range []int{24, 40, 64} {
		n := []int{8, 8, 64}[i]
		if l, w := x.seen(0, page, n), was[8*(page-8):8*(page-8+n)]; !slices.Equal(l, w) {
			t.Errorf("from %d on: %v, want %v", page, l, w)
		}
	}
}

// P13.4, P13.5: what one of many copies stores in its own pages nobody else sees; what it stores in an object's all see.
func TestForks(t *testing.T) {
	x := newPair(t, spawn(), lay(0, 8, 1, api.Private, 3), lay(0, 9, 1, api.Shared, 3), lay(0, 16, 8, api.SharedHuge, 3))
	for i := range 15 {
		x.want(fork(i/2), api.Result{Value: uint64(i + 1)})
		for n := range i + 2 {
			x.all(store(n, 512, uint64(100*i+n+1)), store(n, 576, uint64(1000*i+n)), store(n, 1024+64*(n%8), uint64(10000*i+n)))
			for other := range i + 2 {
				x.load(other, 576, uint64(1000*i+n))
				x.load(other, 1024+64*(n%8), uint64(10000*i+n))
			}
		}
		for n := range i + 2 {
			x.load(n, 512, uint64(100*i+n+1))
		}
	}
	x.same()
	for n := range 15 {
		x.all(exit(n))
		x.load(15, 512, 1416)
		x.load(15, 576, 14015)
		x.fails(load(n, 512), api.ErrSpace)
	}
}

// P13.1, P13.4: pages of an object are the same ones wherever they stand: cut, moved, and in copies of copies.
func TestShared(t *testing.T) {
	x := newPair(t, spawn(), lay(0, 8, 8, api.Shared, 3), fork(0), fork(1))
	x.all(move(1, 10, 3, 100), unmap(1, 8, 1), move(2, 8, 8, 17), protect(2, 18, 1, 1), unmap(0, 15, 1), move(0, 8, 7, 1))
	x.fill(2, 17, 8, 4)
	x.same()
	for page := range 8 {
		x.all(protect(2, 17+page, 1, 3))
		for word := range 8 {
			value := uint64(1000 + 8*page + word)
			x.all(store(2, 64*(17+page)+8*word, value))
			if page < 7 {
				x.load(0, 64*(1+page)+8*word, value)
			}
			switch {
			case page >= 2 && page < 5:
				x.load(1, 64*(98+page)+8*word, value)
			case page > 0:
				x.load(1, 64*(8+page)+8*word, value)
			}
		}
	}
	x.all(move(1, 100, 3, 10))
	if l, want := x.f.Areas(1), []api.Area{{From: 9, To: 16, How: api.Shared, Prot: 3, Off: 1}}; !slices.Equal(l, want) {
		t.Errorf("Areas(1): %v, want %v", l, want)
	}
	x.all(exit(2), exit(0), fork(1))
	for i, value := range x.seen(3, 9, 7) {
		if value != uint64(1008+i) {
			t.Errorf("the word %d: %d, want %d", i, value, 1008+i)
		}
	}
	x.same()
}

// P13.1: an object that nobody has any more is no other one: a new one's words are 0, wherever it stands.
func TestObjectGone(t *testing.T) {
	for _, how := range ofObjects {
		x := newPair(t, spawn(), lay(0, 8, 8, how, 3), fork(0))
		x.fill(0, 8, 8, 1)
		x.all(unmap(0, 8, 8), lay(0, 8, 8, how, 3))
		x.same()
		if l := x.seen(0, 8, 8); slices.Max(l) != 0 {
			t.Errorf("how %d: %v, want 0", how, l)
		}
		if l := x.seen(1, 8, 8); slices.Min(l) == 0 {
			t.Errorf("how %d, of the copy: %v, want none 0", how, l)
		}
		x.fill(0, 8, 8, 2)
		x.all(exit(1), unmap(0, 8, 8), lay(0, 16, 8, how, 3), spawn(), lay(2, 8, 8, how, 3))
		x.same()
		for n, page := range []int{16, 0, 8} {
			if l := x.seen(n, page, 8); slices.Max(l) != 0 {
				t.Errorf("how %d, of the space %d: %v, want 0", how, n, l)
			}
		}
	}
}

// What nobody can see any more is not kept: else these objects and spaces would take some 40 MB.
func TestNotKept(t *testing.T) {
	heap := func() uint64 {
		var m runtime.MemStats
		runtime.GC()
		runtime.ReadMemStats(&m)
		return m.HeapAlloc
	}
	f := flat.New()
	f.Do(spawn())
	was := heap()
	for i := range 400 {
		how := []int{api.Shared, api.Private, api.SharedHuge}[i%3]
		if r := f.Do(lay(0, 512, 1024, how, 3)); r.E != api.OK {
			t.Fatalf("OMap: %d", r.E)
		}
		for page := range 1024 {
			f.Do(store(0, 64*(512+page), 7))
		}
		if r := f.Do(unmap(0, 512, 1024)); r.E != api.OK {
			t.Fatalf("OUnmap: %d", r.E)
		}
	}
	if now := heap(); now > was+8<<20 {
		t.Errorf("%d bytes are kept", now-was)
	}
	runtime.KeepAlive(f)
}

// P13.1: an object of which a piece alone is left keeps that piece's words, in each space.
func TestPieces(t *testing.T) {
	for left := range 8 {
		x := newPair(t, spawn(), lay(0, 8, 8, api.Shared, 3), lay(0, 20, 2, api.Shared, 3), fork(0))
		x.fill(0, 8, 8, 7)
		x.fill(0, 20, 2, 7)
		was := x.seen(0, 8+left, 1)
		for page := range 8 {
			if page != left {
				x.all(unmap(0, 8+page, 1), unmap(1, 15-page, 1))
			}
			x.same()
		}
		if l := x.seen(0, 8+left, 1); !slices.Equal(l, was) {
			t.Errorf("the page %d: %v, want %v", left, l, was)
		}
		x.fill(0, 8+left, 1, 9)
		x.same()
	}
}

// P13.5: what is done in one space changes nothing of another one that has no object with it, though it is laid alike.
func TestApart(t *testing.T) {
	for _, o := range []api.Op{
		unmap(0, 8, 8), unmap(0, 1, 4095), protect(0, 8, 16, 1), zap(0, 8, 16), zap(0, 64, 64), move(0, 8, 16, 200), fork(0), exit(0), spawn(),
		store(0, 512, 99), store(0, 1024, 99), lay(0, 0, 5, api.Private, 3), lay(0, 0, 8, api.SharedHuge, 3),
	} {
		x := newPair(t, spawn(), spawn())
		for n := range 2 {
			x.all(lay(n, 8, 8, api.Private, 3), lay(n, 16, 8, api.Shared, 3), lay(n, 24, 8, api.SharedHuge, 3), lay(n, 64, 64, api.OfGiant, 3))
			x.fill(n, 8, 24, uint64(n+1))
			x.fill(n, 64, 64, uint64(n+1))
		}
		areas, was := x.f.Areas(1), x.seen(1, 0, 4096)
		x.all(o)
		if l := x.f.Areas(1); !slices.Equal(l, areas) {
			t.Errorf("behind %+v: %v, was %v", o, l, areas)
		}
		if !slices.Equal(x.seen(1, 0, 4096), was) {
			t.Errorf("behind %+v other words", o)
		}
		x.same()
	}
}

// P13.1: a space that has exited is none any more; its number is not given again, and its objects are there for others.
func TestExit(t *testing.T) {
	x := newPair(t, spawn(), lay(0, 8, 4, api.Private, 3), lay(0, 12, 4, api.Shared, 3), fork(0))
	x.fill(0, 8, 8, 1)
	x.want(exit(0), api.Result{})
	x.fails(exit(0), api.ErrSpace)
	x.want(spawn(), api.Result{Value: 2})
	x.want(fork(1), api.Result{Value: 3})
	x.fails(load(0, 512), api.ErrSpace)
	x.load(1, 512, 0)
	x.load(3, 768, 1<<32+97)
	if n := x.f.Spaces(); n != 4 {
		t.Errorf("Spaces: %d, want 4", n)
	}
	x.same()
}

// The chapter says nothing of an operation's other fields: they change nothing.
func TestOtherFields(t *testing.T) {
	x := newPair(t)
	for i, o := range []api.Op{
		spawn(), lay(0, 8, 8, api.Private, 3), lay(0, 0, 8, api.Shared, 3), store(0, 512, 7), protect(0, 9, 1, 1), zap(0, 10, 1), move(0, 12, 2, 40),
		fork(0), unmap(1, 8, 1), load(0, 512), exit(1),
	} {
		o.Cpu = sorts[(7*i)%len(sorts)]
		for _, rest := range []struct {
			field *int
			kinds []int
		}{
			{&o.At, []int{api.OSpawn, api.OFork, api.OExit}},
			{&o.N, []int{api.OSpawn, api.OFork, api.OExit, api.OLoad, api.OStore}},
			{&o.How, []int{1, 3, 4, 5, 6, 7, 8, 9, 10}},
			{&o.Prot, []int{1, 3, 5, 6, 7, 8, 9, 10}},
			{&o.To, []int{1, 2, 3, 4, 5, 7, 8, 9, 10}},
		} {
			if slices.Contains(rest.kinds, o.Kind) {
				*rest.field = sorts[(11*i+3)%len(sorts)]
			}
		}
		if o.Kind != api.OStore {
			o.Value = math.MaxUint64
		}
		x.all(o)
		x.same()
	}
	x.load(0, 512, 7)
}

// R3: what is told is new memory, and stays as it was told.
func TestToldNew(t *testing.T) {
	x := newPair(t, spawn())
	for i := range 20 {
		x.all(lay(0, 8+2*i, 1, api.Private, 3))
		l, more := x.f.Areas(0), x.f.Areas(0)
		for j := range l {
			l[j] = api.Area{From: 9}
		}
		_ = append(l, api.Area{From: 7})
		x.same()
		want := slices.Clone(more)
		x.all(protect(0, 8, 1, i%2), unmap(0, 8+2*i, 1), lay(0, 8+2*i, 1, api.Private, 3))
		if !slices.Equal(more, want) {
			t.Errorf("what was told became %v; was %v", more, want)
		}
	}
}

// someStretch tells pages of a space, mostly such that are in an area.
func (x pair) someStretch(c *chance, space, pages int) (int, int) {
	at, n := 1+c.below(pages), 1+c.below(12)
	if l := x.m.space(space); l != nil && c.below(3) > 0 {
		if areas := l.areas.All(); len(areas) > 0 {
			a := areas[c.below(len(areas))]
			at = a.From + c.below(a.To-a.From)
			n = 1 + c.below(a.To-at+1)
		}
	}
	switch c.below(6) {
	case 0, 1:
		return at &^ 7, (n + 7) &^ 7
	case 2:
		return at &^ 63, (n + 63) &^ 63
	}
	return at, n
}

// step does one of all operations, mostly one that may be.
func (x pair) step(c *chance, pages int) {
	x.t.Helper()
	space := c.below(len(x.m.lands)+2) - 1
	if c.below(8) > 0 {
		space = len(x.m.lands) - 1 - c.below(3)
	}
	at, n := x.someStretch(c, space, pages)
	prot := c.of(0, 1, 1, 3, 3, 3, 3, 3, c.below(6)-1)
	switch c.below(32) {
	case 0:
		if c.below(3) == 0 {
			x.do(spawn())
		}
	case 1, 2, 3:
		x.do(lay(space, at, n, c.below(8), prot))
	case 4, 5:
		x.do(lay(space, 0, n, c.below(8), prot))
	case 6, 7:
		x.do(unmap(space, at, n))
	case 8, 9:
		x.do(protect(space, at, n, prot))
	case 10, 11:
		x.do(zap(space, at, n))
	case 12, 13:
		x.do(move(space, at, n, 1+c.below(pages)))
	case 14:
		if c.below(3) == 0 {
			x.do(fork(space))
		}
	case 15:
		if c.below(12) == 0 {
			x.do(exit(space))
		}
	case 16, 17, 18, 19:
		x.do(load(space, 64*at+8*c.below(8*n)+c.below(4)/3))
	default:
		x.do(store(space, 64*at+8*c.below(8*n)+c.below(8)/7, uint64(c.below(1<<30))))
	}
}

// P13.1 to P13.6: long rows of operations, on few pages and on all.
func TestRows(t *testing.T) {
	c := chance(1)
	for _, pages := range []int{6, 20, 80, 300, 1500, 4095} {
		for range 8 {
			x := newPair(t, spawn())
			for i := range 1200 {
				x.step(&c, pages)
				if i%300 == 299 {
					x.same()
				}
			}
			for n := range x.m.lands {
				x.do(unmap(n, 1, 4095))
			}
			x.same()
		}
	}
}

// R4: two know nothing of each other, and answer alike what was done alike.
func TestTwo(t *testing.T) {
	x, y := newPair(t, spawn()), newPair(t)
	c, d := chance(5), chance(5)
	for range 1500 {
		x.step(&c, 60)
	}
	y.same()
	if n := y.f.Spaces(); n != 0 {
		t.Errorf("Spaces: %d, want 0", n)
	}
	y.all(spawn())
	for range 1500 {
		y.step(&d, 60)
	}
	x.same()
	y.same()
	for n := range x.f.Spaces() {
		if !slices.Equal(x.f.Areas(n), y.f.Areas(n)) || !slices.Equal(x.seen(n, 0, 200), y.seen(n, 0, 200)) {
			t.Errorf("the space %d is not alike", n)
		}
	}
}
