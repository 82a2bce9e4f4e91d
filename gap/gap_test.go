package gap_test

import (
	"math"
	"slices"
	"testing"

	"pantile/api"
	"pantile/gap"
)

// Numbers of all sorts: around 0, blocks of all orders, the ends of pages, and of what a number can be.
var sorts = []int{
	math.MinInt, math.MinInt + 1, math.MinInt + 4096, math.MinInt / 2, -1 << 32, -4096, -256, -8, -2, -1,
	0, 1, 2, 7, 8, 9, 15, 16, 17, 24, 31, 32, 33, 255, 256, 257, 3839, 3840, 3841, 4063, 4064, 4065, 4094, 4095, 4096, 4097, 4098,
	1 << 16, 1 << 32, 1<<32 + 8, 1<<32 + 4096, math.MaxInt / 2, math.MaxInt/2 + 1, math.MaxInt - 4096, math.MaxInt - 4095, math.MaxInt - 255, math.MaxInt - 1, math.MaxInt,
}

// model says of each page where its stretch begins: 0, if it is room. The last one is none, and ends what lies ahead of it.
type model [4097]int16

// wrong says what P18.1 and P18.2 say of both pages.
func wrong(from, to int) api.Errno {
	if from < 1 || to > 4096 || from >= to {
		return api.ErrRange
	}
	return api.OK
}

// set lets pages be in the stretch that begins at one, or be room.
func (m *model) set(from, to, first int) {
	for page := from; page < to; page++ {
		m[page] = int16(first)
	}
}

// put says P18.1.
func (m *model) put(from, to int) api.Errno {
	if err := wrong(from, to); err != api.OK {
		return err
	}
	for page := from; page < to; page++ {
		if m[page] != 0 {
			return api.ErrExist
		}
	}
	m.set(from, to, from)
	return api.OK
}

// del says P18.1.
func (m *model) del(from, to int) api.Errno {
	if err := wrong(from, to); err != api.OK {
		return err
	}
	if !slices.Contains(m.all(), [2]int{from, to}) {
		return api.ErrNone
	}
	m.set(from, to, 0)
	return api.OK
}

// cut says P18.2.
func (m *model) cut(from, to int) api.Errno {
	if err := wrong(from, to); err != api.OK {
		return err
	}
	for page := to; m[page] != 0 && int(m[page]) < to; page++ {
		m[page] = int16(to)
	}
	m.set(from, to, 0)
	return api.OK
}

// all tells the stretches, rising.
func (m *model) all() [][2]int {
	var l [][2]int
	for page := 1; page < 4096; page++ {
		switch int(m[page]) {
		case 0:
		case page:
			l = append(l, [2]int{page, page + 1})
		default:
			l[len(l)-1][1]++
		}
	}
	return l
}

// find says P18.3.
func (m *model) find(page int) (int, int, bool) {
	if page < 1 || page > 4095 || m[page] == 0 {
		return 0, 0, false
	}
	from, to := int(m[page]), page
	for int(m[to]) == from {
		to++
	}
	return from, to, true
}

// free tells of each page how many pages side by side are room from it on.
func (m *model) free() [4097]int {
	var l [4097]int
	for page := 4095; page > 0; page-- {
		if m[page] == 0 {
			l[page] = l[page+1] + 1
		}
	}
	return l
}

// greatest says P18.4.
func (m *model) greatest() int {
	n, most := 0, 0
	for _, first := range m[1:4096] {
		n++
		if first != 0 {
			n = 0
		}
		most = max(most, n)
	}
	return most
}

// places says P18.3 of each page from which on a place may be searched: 0, if there is none.
func (m *model) places(n, order int) [4097]int {
	var l [4097]int
	free := m.free()
	for page := 4095; page > 0; page-- {
		l[page] = l[page+1]
		if page%(1<<order) == 0 && free[page] >= n {
			l[page] = page
		}
	}
	return l
}

// rooms makes the function that says P18.3 of each page from which on a place is searched.
func (m *model) rooms(n, order int) func(low int) (int, api.Errno) {
	if n < 1 || order < 0 || order > 8 {
		return func(int) (int, api.Errno) { return 0, api.ErrArg }
	}
	places := m.places(n, order)
	return func(low int) (int, api.Errno) {
		if page := places[min(max(low, 1), 4096)]; page != 0 {
			return page, api.OK
		}
		return 0, api.ErrFull
	}
}

// least tells how many stretches a balanced tree of a height has at least (P18.5).
func least(height int) int {
	if height < 1 {
		return 0
	}
	return least(height-1) + least(height-2) + 1
}

// pair is a tree, and what it should be.
type pair struct {
	t *testing.T
	x *gap.Tree
	m *model
}

// newPair makes a tree with stretches, each of which may be.
func newPair(t *testing.T, stretches ...[2]int) pair {
	t.Helper()
	p := unasked(t, stretches...)
	p.same()
	return p
}

// unasked makes it, and asks nothing.
func unasked(t *testing.T, stretches ...[2]int) pair {
	t.Helper()
	p := pair{t, gap.New(), &model{}}
	if p.x == nil {
		t.Fatal("New: nil")
	}
	for _, s := range stretches {
		if err := p.x.Put(s[0], s[1]); err != api.OK || p.m.put(s[0], s[1]) != api.OK {
			t.Fatalf("Put(%d, %d): %d", s[0], s[1], err)
		}
	}
	return p
}

// call calls the tree and the model, and holds them against each other; with an error not even the height may change.
func (p pair) call(name string, x, m func(from, to int) api.Errno, from, to int) api.Errno {
	p.t.Helper()
	height := p.x.Height()
	err, want := x(from, to), m(from, to)
	if err != want {
		p.t.Fatalf("%s(%d, %d): %d, want %d", name, from, to, err, want)
	}
	if h := p.x.Height(); err != api.OK && h != height {
		p.t.Fatalf("%s(%d, %d): %d, and the height is %d, was %d", name, from, to, err, h, height)
	}
	p.same()
	return err
}

func (p pair) put(from, to int) api.Errno {
	p.t.Helper()
	return p.call("Put", p.x.Put, p.m.put, from, to)
}

func (p pair) del(from, to int) api.Errno {
	p.t.Helper()
	return p.call("Del", p.x.Del, p.m.del, from, to)
}

func (p pair) cut(from, to int) api.Errno {
	p.t.Helper()
	return p.call("Cut", p.x.Cut, p.m.cut, from, to)
}

func (p pair) find(page int) {
	p.t.Helper()
	from, to, ok := p.x.Find(page)
	wantFrom, wantTo, want := p.m.find(page)
	if from != wantFrom || to != wantTo || ok != want {
		p.t.Fatalf("Find(%d): %d, %d, %t; want %d, %d, %t", page, from, to, ok, wantFrom, wantTo, want)
	}
}

func (p pair) room(low, n, order int) (int, api.Errno) {
	p.t.Helper()
	p.sameRooms(n, order, low)
	return p.x.Room(low, n, order)
}

// same holds all that is told of the whole against the model's (P18.4), and the height against what it may be (P18.5).
func (p pair) same() {
	p.t.Helper()
	l, want := p.x.All(), p.m.all()
	if !slices.Equal(l, want) {
		p.t.Fatalf("All: %v, want %v", l, want)
	}
	if n := p.x.Len(); n != len(want) {
		p.t.Fatalf("Len: %d, want %d", n, len(want))
	}
	if n, want := p.x.Greatest(), p.m.greatest(); n != want {
		p.t.Fatalf("Greatest: %d, want %d", n, want)
	}
	if h := p.x.Height(); h < 0 || h > 17 || least(h) > len(want) || 1<<h-1 < len(want) {
		p.t.Fatalf("Height: %d, of %d stretches", h, len(want))
	}
}

// samePages holds each page's stretch against the model's.
func (p pair) samePages() {
	p.t.Helper()
	for _, page := range everywhere() {
		p.find(page)
	}
}

// sameRooms holds places of so many pages, from some pages on, against the model's.
func (p pair) sameRooms(n, order int, lows ...int) {
	p.t.Helper()
	rooms := p.m.rooms(n, order)
	for _, low := range lows {
		page, err := p.x.Room(low, n, order)
		if want, wantErr := rooms(low); page != want || err != wantErr {
			p.t.Fatalf("Room(%d, %d, %d): %d, %d; want %d, %d", low, n, order, page, err, want, wantErr)
		}
	}
}

// everywhere tells all pages, and what lies around them.
func everywhere() []int {
	var l []int
	for page := -1; page <= 4097; page++ {
		l = append(l, page)
	}
	return l
}

// chance makes numbers in a row that always is the same.
type chance uint64

func (c *chance) below(n int) int {
	*c = *c*6364136223846793005 + 1442695040888963407
	return int(uint64(*c) >> 33 % uint64(n))
}

// mix puts numbers from 0 on in an order of chance.
func (c *chance) mix(n int) []int {
	l := make([]int, n)
	for i := range l {
		j := c.below(i + 1)
		l[i], l[j] = l[j], i
	}
	return l
}

// stretches tells some of chance, each of at most so many pages, with as many between two of them at most.
func (c *chance) stretches(pages, between int) [][2]int {
	var l [][2]int
	from := 1 + c.below(between+1)
	for from < 4096 {
		to := min(from+1+c.below(pages), 4096)
		l = append(l, [2]int{from, to})
		from = to + c.below(between+1)
	}
	return l
}

// orders hands on each order of the numbers below n.
func orders(n int, each func([]int)) {
	var longer func(l []int)
	longer = func(l []int) {
		if len(l) == n {
			each(l)
			return
		}
		for i := range n {
			if !slices.Contains(l, i) {
				longer(append(slices.Clone(l), i))
			}
		}
	}
	longer(nil)
}

// sets hands on each set of stretches of the pages from one on, ahead of another.
func sets(from, to int, each func([][2]int)) {
	var further func(page int, l [][2]int)
	further = func(page int, l [][2]int) {
		if page == to {
			each(l)
			return
		}
		further(page+1, l)
		for end := page + 1; end <= to; end++ {
			further(end, append(slices.Clone(l), [2]int{page, end}))
		}
	}
	further(from, nil)
}

// The chapter's example.
func TestExample(t *testing.T) {
	x := gap.New()
	if err := x.Put(8, 16); err != api.OK {
		t.Errorf("Put(8, 16): %d", err)
	}
	if err := x.Put(24, 32); err != api.OK {
		t.Errorf("Put(24, 32): %d", err)
	}
	for _, r := range [][3]int{{7, 0, 1}, {8, 0, 16}, {8, 3, 16}, {9, 3, 32}} {
		if page, err := x.Room(0, r[0], r[1]); page != r[2] || err != api.OK {
			t.Errorf("Room(0, %d, %d): %d, %d; want %d", r[0], r[1], page, err, r[2])
		}
	}
	if n := x.Greatest(); n != 4064 {
		t.Errorf("Greatest: %d, want 4064", n)
	}
}

// P18.1 to P18.4: of a nil tree, whatever is asked.
func TestNil(t *testing.T) {
	var x *gap.Tree
	for _, a := range sorts {
		for _, b := range sorts {
			if err := x.Put(a, b); err != api.ErrNil {
				t.Fatalf("Put(%d, %d): %d", a, b, err)
			}
			if err := x.Del(a, b); err != api.ErrNil {
				t.Fatalf("Del(%d, %d): %d", a, b, err)
			}
			if err := x.Cut(a, b); err != api.ErrNil {
				t.Fatalf("Cut(%d, %d): %d", a, b, err)
			}
			for _, order := range []int{math.MinInt, -1, 0, 8, 9, math.MaxInt} {
				if page, err := x.Room(a, b, order); page != 0 || err != api.ErrNil {
					t.Fatalf("Room(%d, %d, %d): %d, %d", a, b, order, page, err)
				}
			}
		}
		if from, to, ok := x.Find(a); from != 0 || to != 0 || ok {
			t.Fatalf("Find(%d): %d, %d, %t", a, from, to, ok)
		}
	}
	if l := x.All(); len(l) != 0 {
		t.Errorf("All: %v", l)
	}
	if g, n, h := x.Greatest(), x.Len(), x.Height(); g != 0 || n != 0 || h != 0 {
		t.Errorf("Greatest, Len, Height: %d, %d, %d", g, n, h)
	}
}

// P18.4: of a tree without a stretch.
func TestNone(t *testing.T) {
	p := newPair(t)
	if g, n, h := p.x.Greatest(), p.x.Len(), p.x.Height(); g != 4095 || n != 0 || h != 0 {
		t.Errorf("Greatest, Len, Height: %d, %d, %d", g, n, h)
	}
	p.samePages()
	for order := range 9 {
		for _, n := range []int{1, 2, 255, 256, 3839, 3840, 3841, 4094, 4095, 4096} {
			p.sameRooms(n, order, everywhere()...)
		}
	}
}

// shapes hands on the stretches of trees of all shapes.
func shapes(each func([][2]int)) {
	c := chance(18)
	each(nil)
	each([][2]int{{1, 4096}})
	each([][2]int{{1, 2}})
	each([][2]int{{4095, 4096}})
	each([][2]int{{2, 4095}})
	each([][2]int{{1, 256}, {257, 4095}})
	each([][2]int{{8, 16}, {24, 32}, {16, 17}, {4064, 4095}})
	each(c.stretches(9, 17))
	each(c.stretches(60, 300))
	each(c.stretches(700, 40))
	var thin, even [][2]int
	for page := 2; page < 4095; page += 2 {
		thin = append(thin, [2]int{page, page + 1})
	}
	for page := 256; page < 4096; page += 256 {
		even = append(even, [2]int{page, page + 1})
	}
	each(thin)
	each(even)
}

// P18.1: numbers of every sort, and the order of the errors.
func TestSorts(t *testing.T) {
	shapes(func(l [][2]int) {
		p := newPair(t, l...)
		for _, a := range sorts {
			for _, b := range sorts {
				if !slices.Contains(l, [2]int{a, b}) {
					p.del(a, b)
				}
				if p.put(a, b) == api.OK {
					p.del(a, b)
				}
			}
		}
	})
}

// P18.2: cuts at numbers of every sort.
func TestCutSorts(t *testing.T) {
	shapes(func(l [][2]int) {
		for i, a := range sorts {
			p := unasked(t, l...)
			for j := range sorts {
				p.cut(a, sorts[(i+j*17)%len(sorts)])
			}
		}
	})
}

// P18.3: Find of every page, and of numbers of every sort.
func TestFind(t *testing.T) {
	shapes(func(l [][2]int) {
		p := newPair(t, l...)
		p.samePages()
		for _, page := range sorts {
			p.find(page)
		}
	})
}

// P18.3: Room of numbers of every sort.
func TestRoomSorts(t *testing.T) {
	shapes(func(l [][2]int) {
		p := newPair(t, l...)
		for _, n := range sorts {
			for _, order := range []int{math.MinInt, -1, 0, 1, 3, 6, 8, 9, 64, 1 << 32, math.MaxInt} {
				p.sameRooms(n, order, sorts...)
			}
		}
	})
}

// P18.3: Room from every page on, of every order, of few pages and of many.
func TestRoom(t *testing.T) {
	shapes(func(l [][2]int) {
		p := newPair(t, l...)
		for order := range 9 {
			for _, n := range []int{1, 2, 3, 7, 8, 9, 15, 17, 40, 64, 65, 255, 256, 257, 300, 2048, 3839, 3840} {
				p.sameRooms(n, order, everywhere()...)
			}
		}
	})
}

// P18.3: a gap just great enough, or one page less, wherever it begins within its block.
func TestRoomOneGap(t *testing.T) {
	for order := range 9 {
		size := 1 << order
		for _, n := range []int{1, size - 1, size, size + 1, 2 * size} {
			if n < 1 {
				continue
			}
			for from := 1; from <= 2*size; from++ {
				even := (from + size - 1) / size * size
				x := gap.New()
				if from > 1 {
					x.Put(1, from)
				}
				x.Put(even+n, 4096)
				if page, err := x.Room(0, n, order); page != even || err != api.OK {
					t.Fatalf("of %d to %d Room(0, %d, %d): %d, %d; want %d", from, even+n, n, order, page, err, even)
				}
				x.Put(even+n-1, even+n)
				if page, err := x.Room(0, n, order); page != 0 || err != api.ErrFull {
					t.Fatalf("of %d to %d Room(0, %d, %d): %d, %d; want ErrFull", from, even+n-1, n, order, page, err)
				}
			}
		}
	}
}

// P18.7: what Room tells can be put, and nothing ahead of it.
func TestRoomPut(t *testing.T) {
	c := chance(7)
	for i := range 150 {
		p := newPair(t, c.stretches(1+c.below(60), 1+c.below(90))...)
		for range 10 {
			low, n, order := c.below(4200)-50, 1+c.below(1+c.below(90)), c.below(9)
			page, err := p.room(low, n, order)
			ahead := page
			if err != api.OK {
				ahead = 4096
			}
			for other := max(low, 1); other < ahead; other++ {
				if other%(1<<order) == 0 && p.x.Put(other, other+n) == api.OK {
					t.Fatalf("tree %d: Room(%d, %d, %d): %d, but Put(%d, %d) is OK", i, low, n, order, page, other, other+n)
				}
			}
			if err == api.OK && p.put(page, page+n) != api.OK {
				t.Fatalf("tree %d: Put(%d, %d) is not OK", i, page, page+n)
			}
		}
	}
}

// P18.1, P18.2: each call with each set of stretches of few pages, at both ends of all pages.
func TestFewPages(t *testing.T) {
	for _, first := range []int{1, 4090} {
		end := first + 6
		sets(first, end, func(l [][2]int) {
			p := newPair(t, l...)
			for n := range 8 {
				for order := range 3 {
					p.sameRooms(n, order, first-1, first, first+1, first+2, first+3, first+4, first+5, end, end+1)
				}
			}
			for from := first - 1; from <= end+1; from++ {
				p.find(from)
				for to := from - 1; to <= end+1; to++ {
					unasked(t, l...).put(from, to)
					unasked(t, l...).del(from, to)
					unasked(t, l...).cut(from, to)
				}
			}
		})
	}
}

// P18.2: cuts through many stretches, from every place in them to every other.
func TestCutMany(t *testing.T) {
	var l [][2]int
	for page := 3; page < 120; page += 9 {
		l = append(l, [2]int{page, page + 4}, [2]int{page + 4, page + 6})
	}
	for from := 1; from < 125; from++ {
		for to := from + 1; to < 126; to++ {
			x, m := gap.New(), &model{}
			for _, s := range l {
				x.Put(s[0], s[1])
				m.set(s[0], s[1], s[0])
			}
			err, want := x.Cut(from, to), m.cut(from, to)
			if l, wantList := x.All(), m.all(); err != want || !slices.Equal(l, wantList) {
				t.Fatalf("Cut(%d, %d): %d, %v; want %d, %v", from, to, err, l, want, wantList)
			}
			pair{t, x, m}.same()
		}
	}
}

// P18.1: two stretches side by side stay two, and each goes alone.
func TestSideBySide(t *testing.T) {
	p := newPair(t, [2]int{8, 16}, [2]int{16, 24}, [2]int{1, 8})
	if err := p.del(8, 24); err != api.ErrNone {
		t.Errorf("Del(8, 24): %d", err)
	}
	if err := p.del(1, 16); err != api.ErrNone {
		t.Errorf("Del(1, 16): %d", err)
	}
	if err := p.del(8, 16); err != api.OK {
		t.Errorf("Del(8, 16): %d", err)
	}
	if l := p.x.All(); !slices.Equal(l, [][2]int{{1, 8}, {16, 24}}) {
		t.Errorf("All: %v", l)
	}
}

// P18.6: in which order stretches were put, or taken out, plays no part in what is told.
func TestOrders(t *testing.T) {
	l := [][2]int{{1, 4}, {4, 5}, {8, 20}, {33, 40}, {41, 64}, {4000, 4096}}
	whole := newPair(t, l...)
	for skip := range len(l) + 1 {
		left := newPair(t, l[skip:]...)
		orders(len(l), func(order []int) {
			x := gap.New()
			for _, i := range order {
				if err := x.Put(l[i][0], l[i][1]); err != api.OK {
					t.Fatalf("in the order %v: Put(%v): %d", order, l[i], err)
				}
			}
			if skip == 0 {
				pair{t, x, whole.m}.same()
				return
			}
			for _, i := range order {
				if i >= skip {
					continue
				}
				if err := x.Del(l[i][0], l[i][1]); err != api.OK {
					t.Fatalf("in the order %v: Del(%v): %d", order, l[i], err)
				}
			}
			pair{t, x, left.m}.same()
		})
	}
}

// P18.6: also of many stretches, with each page and each place.
func TestManyOrders(t *testing.T) {
	c := chance(6)
	for range 6 {
		l := c.stretches(12, 20)
		p := newPair(t, l...)
		for range 3 {
			x := gap.New()
			for _, i := range c.mix(len(l)) {
				x.Put(l[i][0], l[i][1])
			}
			q := pair{t, x, p.m}
			q.same()
			q.samePages()
			q.sameRooms(1+c.below(30), c.below(6), everywhere()...)
		}
	}
}

// rows tells in which orders pages are put: rising, falling, from both ends, from the middle, by leaps, by chance.
func rows(n int) [][]int {
	c := chance(5)
	l := make([][]int, 6)
	for i := range n {
		both := i / 2
		if i%2 == 1 {
			both = n - 1 - i/2
		}
		l[0] = append(l[0], i)
		l[1] = append(l[1], n-1-i)
		l[2] = append(l[2], both)
		l[4] = append(l[4], i*1009%n)
	}
	l[3] = slices.Clone(l[2])
	slices.Reverse(l[3])
	l[5] = c.mix(n)
	return l
}

// P18.4, P18.5: as many stretches as there can be, put in rows of all sorts, and taken out in others.
func TestAllPages(t *testing.T) {
	for _, puts := range rows(4095) {
		x := gap.New()
		for i, page := range puts {
			if err := x.Put(page+1, page+2); err != api.OK {
				t.Fatalf("Put(%d, %d): %d", page+1, page+2, err)
			}
			if h := x.Height(); least(h) > i+1 || 1<<h-1 < i+1 {
				t.Fatalf("Height: %d, of %d stretches", h, i+1)
			}
		}
		if g, n := x.Greatest(), x.Len(); g != 0 || n != 4095 {
			t.Fatalf("Greatest, Len: %d, %d", g, n)
		}
		for page := 1; page < 4096; page++ {
			if err := x.Put(page, page+1); err != api.ErrExist {
				t.Fatalf("Put(%d, %d): %d", page, page+1, err)
			}
			if at, err := x.Room(page, 1, 0); at != 0 || err != api.ErrFull {
				t.Fatalf("Room(%d, 1, 0): %d, %d", page, at, err)
			}
		}
		for _, dels := range rows(4095)[:2] {
			emptied(t, x, dels)
			for _, page := range puts {
				x.Put(page+1, page+2)
			}
		}
		emptied(t, x, puts)
	}
}

// emptied takes all pages out of a tree of stretches of one page, by Del and by Cut in turns.
func emptied(t *testing.T, x *gap.Tree, pages []int) {
	t.Helper()
	for i, page := range pages {
		out := x.Del
		if i%3 == 0 {
			out = x.Cut
		}
		if err := out(page+1, page+2); err != api.OK {
			t.Fatalf("the page %d can't be taken out: %d", page+1, err)
		}
		n := len(pages) - 1 - i
		if h := x.Height(); least(h) > n || 1<<h-1 < n {
			t.Fatalf("Height: %d, of %d stretches", h, n)
		}
	}
	if g, n, h := x.Greatest(), x.Len(), x.Height(); g != 4095 || n != 0 || h != 0 {
		t.Fatalf("Greatest, Len, Height: %d, %d, %d", g, n, h)
	}
}

// P18.5: great parts cut off at either end, and in the middle, of trees of many stretches.
func TestCutGreat(t *testing.T) {
	var thin [][2]int
	for page := 1; page < 4096; page += 3 {
		thin = append(thin, [2]int{page, page + 2})
	}
	for from := 1; from < 4096; from += 127 {
		for _, to := range []int{from + 1, from + 2, from + 50, (from + 4096) / 2, 4095, 4096} {
			if from >= to || to > 4096 {
				continue
			}
			p := newPair(t, thin...)
			p.cut(from, to)
			p.put(from, min(from+5, to))
			p.cut(1, from+2)
		}
	}
}

// R3: what is answered is new memory, and two trees have nothing in common.
func TestNew(t *testing.T) {
	x, y := gap.New(), gap.New()
	x.Put(8, 16)
	x.Put(24, 32)
	if l := y.All(); len(l) != 0 {
		t.Errorf("All of another tree: %v", l)
	}
	l := x.All()
	l[0] = [2]int{1, 4096}
	_ = append(l[:1], [2]int{2, 3})
	if l := x.All(); !slices.Equal(l, [][2]int{{8, 16}, {24, 32}}) {
		t.Errorf("All, when an earlier answer was changed: %v", l)
	}
	kept := x.All()
	x.Cut(10, 30)
	if !slices.Equal(kept, [][2]int{{8, 16}, {24, 32}}) {
		t.Errorf("an earlier answer, when the tree was changed: %v", kept)
	}
}

// P18.1 to P18.7: long rows of calls.
func TestRows(t *testing.T) {
	for seed := range 24 {
		c := chance(seed)
		p := newPair(t)
		pages := 1 + c.below(40)
		for i := range 500 {
			from := c.below(4100)
			to := from + c.below(pages) + 1
			switch c.below(8) {
			case 0, 1, 2:
				p.put(from, to)
			case 3, 4:
				if page, err := p.room(from, to-from, c.below(9)); err == api.OK {
					p.put(page, page+to-from)
				}
			case 5:
				if l := p.m.all(); len(l) > 0 {
					s := l[c.below(len(l))]
					p.del(s[0]+c.below(4)/3, s[1]+c.below(4)/3)
				}
			case 6:
				p.cut(from, to)
			case 7:
				if c.below(10) == 0 {
					p.cut(from, from+c.below(1500))
				}
			}
			if i%50 == 0 {
				p.samePages()
				p.sameRooms(1+c.below(50), c.below(9), everywhere()...)
			}
		}
	}
}
