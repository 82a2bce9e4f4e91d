package tlb_test

import (
	"math"
	"slices"
	"testing"

	"pantile/api"
	"pantile/tlb"
)

// Numbers of all sorts: around 0, the ends of blocks, of what pages and frames there are, and of what a number can be.
var sorts = []int{
	math.MinInt, math.MinInt + 1, math.MinInt + 4096, math.MinInt / 2, -1 << 32, -1 << 20, -4096, -64, -9, -8, -7, -6, -3, -1,
	0, 1, 2, 3, 6, 7, 8, 9, 63, 64, 65, 72, 127, 128, 4031, 4032, 4033, 4087, 4088, 4089, 4095, 4096, 4097, 4160,
	1<<20 - 65, 1<<20 - 64, 1<<20 - 63, 1<<20 - 8, 1<<20 - 1, 1 << 20, 1<<20 + 1, 1<<20 + 64, 1 << 32, 1<<32 + 8,
	math.MaxInt / 2, math.MaxInt - 4096, math.MaxInt - 63, math.MaxInt - 7, math.MaxInt - 1, math.MaxInt,
}

// model says the chapter's words of lines in the order in which they were put; a line's pages it goes through one by one.
type model struct {
	size  int
	lines []api.Cached
}

// mayBe says when a line may be.
func mayBe(c api.Cached) bool {
	n := 1
	switch c.Order {
	case 0:
	case 3:
		n = 8
	case 6:
		n = 64
	default:
		return false
	}
	return c.Space >= 0 && c.Page >= 0 && c.Page < 4096 && c.Page%n == 0 && c.Frame >= 0 && c.Frame < 1048576 && c.Frame%n == 0
}

// inside tells whether a page is one of n from another on.
func inside(p, page, n int) bool {
	// The difference of two ints in order is told whole by a uint64.
	return n > 0 && p >= page && uint64(p)-uint64(page) < uint64(n)
}

// holds tells whether a line holds one of n pages of a space.
func holds(c api.Cached, space, page, n int) bool {
	if c.Space != space {
		return false
	}
	for p := c.Page; p < c.Page+1<<c.Order; p++ {
		if inside(p, page, n) {
			return true
		}
	}
	return false
}

// flush says P9.4.
func (m *model) flush(space, page, n int) int {
	var kept []api.Cached
	for _, c := range m.lines {
		if !holds(c, space, page, n) {
			kept = append(kept, c)
		}
	}
	dropped := len(m.lines) - len(kept)
	m.lines = kept
	return dropped
}

// flushSpace says P9.4.
func (m *model) flushSpace(space int) int {
	n := len(m.lines)
	m.lines = slices.DeleteFunc(m.lines, func(c api.Cached) bool { return c.Space == space })
	return n - len(m.lines)
}

// put says P9.2.
func (m *model) put(c api.Cached) api.Errno {
	if !mayBe(c) {
		return api.ErrArg
	}
	m.flush(c.Space, c.Page, 1<<c.Order)
	if len(m.lines) == m.size {
		m.lines = m.lines[1:]
	}
	m.lines = append(slices.Clone(m.lines), c)
	return api.OK
}

// drop says P9.4.
func (m *model) drop(i int) api.Errno {
	if i < 0 || i >= len(m.lines) {
		return api.ErrRange
	}
	m.lines = slices.Delete(m.lines, i, i+1)
	return api.OK
}

// look says P9.3.
func (m *model) look(space, page int) (api.Cached, bool) {
	for _, c := range m.lines {
		if holds(c, space, page, 1) {
			return c, true
		}
	}
	return api.Cached{}, false
}

// pair is a buffer, and what it should be.
type pair struct {
	t *testing.T
	b *tlb.TLB
	m *model
}

func newPair(t *testing.T, size int, l ...api.Cached) pair {
	t.Helper()
	b, err := tlb.New(size)
	if b == nil || err != api.OK {
		t.Fatalf("New(%d): %v, %d", size, b, err)
	}
	x := pair{t, b, &model{size: size}}
	for _, c := range l {
		x.put(c)
	}
	return x
}

// one is a line of a page.
func one(space, page, order, frame int) api.Cached {
	return api.Cached{Space: space, Page: page, Order: order, Frame: frame}
}

// lines holds all lines against the model's.
func (x pair) lines() {
	x.t.Helper()
	if got := x.b.Lines(); !slices.Equal(got, x.m.lines) {
		x.t.Fatalf("Lines: %v; want %v", got, x.m.lines)
	}
}

func (x pair) put(c api.Cached) api.Errno {
	x.t.Helper()
	err, want := x.b.Put(c), x.m.put(c)
	if err != want {
		x.t.Fatalf("Put(%v): %d, want %d", c, err, want)
	}
	x.lines()
	return err
}

func (x pair) look(space, page int) (api.Cached, bool) {
	x.t.Helper()
	want, wantOK := x.m.look(space, page)
	got, ok := x.b.Look(space, page)
	if got != want || ok != wantOK {
		x.t.Fatalf("Look(%d, %d): %v, %v; want %v, %v", space, page, got, ok, want, wantOK)
	}
	return got, ok
}

// flush says P9.7 of each one, too.
func (x pair) flush(space, page, n int) int {
	x.t.Helper()
	before := x.b.Lines()
	want := x.m.flush(space, page, n)
	if got := x.b.Flush(space, page, n); got != want {
		x.t.Fatalf("Flush(%d, %d, %d): %d, want %d", space, page, n, got, want)
	}
	x.lines()
	after := x.b.Lines()
	if len(before)-len(after) != want {
		x.t.Fatalf("Flush(%d, %d, %d): of %d lines %d are left, %d were dropped", space, page, n, len(before), len(after), want)
	}
	for _, c := range before {
		if holds(c, space, page, n) == slices.Contains(after, c) {
			x.t.Fatalf("Flush(%d, %d, %d): of %v %v are left", space, page, n, before, after)
		}
	}
	return want
}

func (x pair) flushSpace(space int) int {
	x.t.Helper()
	got, want := x.b.FlushSpace(space), x.m.flushSpace(space)
	if got != want {
		x.t.Fatalf("FlushSpace(%d): %d, want %d", space, got, want)
	}
	x.lines()
	return want
}

func (x pair) drop(i int) api.Errno {
	x.t.Helper()
	err, want := x.b.Drop(i), x.m.drop(i)
	if err != want {
		x.t.Fatalf("Drop(%d): %d, want %d", i, err, want)
	}
	x.lines()
	return err
}

// apart says P9.6.
func (x pair) apart() {
	x.t.Helper()
	l := x.b.Lines()
	if len(l) > x.m.size {
		x.t.Fatalf("%d lines, of %d at most", len(l), x.m.size)
	}
	held := map[api.Spot]api.Cached{}
	for _, c := range l {
		for p := c.Page; p < c.Page+1<<c.Order; p++ {
			s := api.Spot{Space: c.Space, Page: p}
			if other, ok := held[s]; ok {
				x.t.Fatalf("the page %v is held by %v and by %v", s, other, c)
			}
			held[s] = c
		}
	}
}

// same asks all there is to ask: of each line its ends and the pages beside it, in its space and in those beside it, and numbers of all sorts; looking changes nothing.
func (x pair) same() {
	x.t.Helper()
	x.lines()
	x.apart()
	for _, c := range x.m.lines {
		end := c.Page + 1<<c.Order
		for _, page := range []int{c.Page - 1, c.Page, (c.Page + end) / 2, end - 1, end} {
			for space := c.Space - 1; space >= -1 && space < c.Space+2 && space < math.MaxInt; space++ {
				x.look(space, page)
			}
			x.look(c.Space, page)
		}
	}
	for _, page := range sorts {
		x.look(0, page)
	}
	for _, space := range sorts {
		x.look(space, 8)
	}
	x.lines()
}

// chance makes numbers in a row that always is the same.
type chance uint64

func (c *chance) below(n int) int {
	*c = *c*6364136223846793005 + 1442695040888963407
	return int(uint64(*c) >> 33 % uint64(n))
}

// line makes a line that may be, of some spaces and of pages of which not too many are used, so that lines often are in each other's way.
func (c *chance) line(spaces, pages int) api.Cached {
	order := 3 * c.below(3)
	return api.Cached{
		Space: c.below(spaces),
		Page:  c.below(pages) &^ (1<<order - 1),
		Order: order,
		Frame: c.below(1<<20) &^ (1<<order - 1),
		Write: c.below(2) == 1,
	}
}

// The chapter's example.
func TestExample(t *testing.T) {
	b, err := tlb.New(2)
	if err != api.OK {
		t.Fatalf("New(2): %d", err)
	}
	for _, page := range []int{1, 2, 3} {
		if err := b.Put(one(0, page, 0, 0)); err != api.OK {
			t.Errorf("Put of page %d: %d", page, err)
		}
	}
	if l := b.Lines(); !slices.Equal(l, []api.Cached{one(0, 2, 0, 0), one(0, 3, 0, 0)}) {
		t.Errorf("Lines: %v", l)
	}
	if err := b.Put(one(0, 0, 3, 0)); err != api.OK {
		t.Errorf("Put of page 0, order 3: %d", err)
	}
	if l := b.Lines(); !slices.Equal(l, []api.Cached{one(0, 0, 3, 0)}) {
		t.Errorf("Lines: %v", l)
	}
}

// P9.1: sizes from 1 to 64, and no others.
func TestNew(t *testing.T) {
	sizes := slices.Clone(sorts)
	for size := -130; size <= 130; size++ {
		sizes = append(sizes, size)
	}
	for _, size := range sizes {
		b, err := tlb.New(size)
		if size < 1 || size > 64 {
			if b != nil || err != api.ErrArg {
				t.Errorf("New(%d): %v, %d; want nil, ErrArg", size, b, err)
			}
			continue
		}
		if b == nil || err != api.OK {
			t.Fatalf("New(%d): %v, %d", size, b, err)
		}
		if l := b.Lines(); len(l) != 0 {
			t.Errorf("New(%d): the lines %v", size, l)
		}
		x := pair{t, b, &model{size: size}}
		x.same()
		if n := x.flush(0, 0, 4096); n != 0 {
			t.Errorf("New(%d): %d lines flushed", size, n)
		}
		if err := x.drop(0); err != api.ErrRange {
			t.Errorf("New(%d): Drop(0): %d, want ErrRange", size, err)
		}
	}
}

// P9.1, P9.6: a buffer of each size holds so many lines, and not one more.
func TestSizes(t *testing.T) {
	for size := 1; size <= 64; size++ {
		x := newPair(t, size)
		for i := range 2*size + 1 {
			x.put(one(i%3, i, 0, i))
			if n, want := len(x.b.Lines()), min(i+1, size); n != want {
				t.Fatalf("of size %d, %d were put: %d lines, want %d", size, i+1, n, want)
			}
			x.apart()
		}
		x.same()
	}
}

// P9.2, P9.4, P9.5: a nil buffer's errors come ahead of all others.
func TestNil(t *testing.T) {
	var b *tlb.TLB
	for _, c := range []api.Cached{{}, one(0, 8, 3, 8), one(-1, 0, 0, 0), one(0, -1, 0, 0), one(0, 0, 1, 0), one(0, 0, 0, -1)} {
		if err := b.Put(c); err != api.ErrNil {
			t.Errorf("Put(%v): %d, want ErrNil", c, err)
		}
	}
	for _, i := range sorts {
		if err := b.Drop(i); err != api.ErrNil {
			t.Errorf("Drop(%d): %d, want ErrNil", i, err)
		}
		if n := b.FlushSpace(i); n != 0 {
			t.Errorf("FlushSpace(%d): %d, want 0", i, n)
		}
		for _, n := range sorts {
			if c, ok := b.Look(i, n); ok || c != (api.Cached{}) {
				t.Errorf("Look(%d, %d): %v, %v", i, n, c, ok)
			}
			if n := b.Flush(0, i, n); n != 0 {
				t.Errorf("Flush(0, %d, %d): %d, want 0", i, n, n)
			}
		}
	}
	if l := b.Lines(); len(l) != 0 {
		t.Errorf("Lines: %v, want none", l)
	}
}

// P9.2: which lines may be; of one that may not be nothing is changed.
func TestPutEdges(t *testing.T) {
	for _, x := range []struct {
		c    api.Cached
		want api.Errno
	}{
		{one(0, 0, 0, 0), api.OK},
		{one(math.MaxInt, 0, 0, 0), api.OK},
		{one(16, 1, 0, 1), api.OK},
		{one(-1, 1, 0, 1), api.ErrArg},
		{one(math.MinInt, 1, 0, 1), api.ErrArg},
		{one(0, 4095, 0, 1<<20-1), api.OK},
		{one(0, 4096, 0, 0), api.ErrArg},
		{one(0, -1, 0, 0), api.ErrArg},
		{one(0, 0, 0, -1), api.ErrArg},
		{one(0, 0, 0, 1<<20), api.ErrArg},
		{one(0, 4088, 3, 1<<20-8), api.OK},
		{one(0, 4096, 3, 0), api.ErrArg},
		{one(0, -8, 3, 0), api.ErrArg},
		{one(0, 0, 3, -8), api.ErrArg},
		{one(0, 0, 3, 1<<20), api.ErrArg},
		{one(0, 1, 3, 8), api.ErrArg},
		{one(0, 4, 3, 8), api.ErrArg},
		{one(0, 8, 3, 1), api.ErrArg},
		{one(0, 8, 3, 12), api.ErrArg},
		{one(0, 1, 3, 1), api.ErrArg},
		{one(0, 4032, 6, 1<<20-64), api.OK},
		{one(0, 4096, 6, 0), api.ErrArg},
		{one(0, -64, 6, 0), api.ErrArg},
		{one(0, 0, 6, -64), api.ErrArg},
		{one(0, 0, 6, 1<<20), api.ErrArg},
		{one(0, 8, 6, 64), api.ErrArg},
		{one(0, 64, 6, 8), api.ErrArg},
		{one(0, 64, 6, 32), api.ErrArg},
		{one(0, 0, -1, 0), api.ErrArg},
		{one(0, 0, 1, 0), api.ErrArg},
		{one(0, 0, 2, 0), api.ErrArg},
		{one(0, 0, 4, 0), api.ErrArg},
		{one(0, 0, 5, 0), api.ErrArg},
		{one(0, 0, 7, 0), api.ErrArg},
		{one(0, 0, 8, 0), api.ErrArg},
		{one(0, 0, 9, 0), api.ErrArg},
		{one(0, 0, 64, 0), api.ErrArg},
		{one(0, 0, -3, 0), api.ErrArg},
		{one(0, 0, math.MinInt, 0), api.ErrArg},
		{one(0, 0, math.MaxInt, 0), api.ErrArg},
	} {
		for _, write := range []bool{false, true} {
			x.c.Write = write
			full := newPair(t, 2, one(0, 0, 3, 0), one(0, 4095, 0, 9))
			before := full.b.Lines()
			if err := full.put(x.c); err != x.want {
				t.Errorf("Put(%v): %d, want %d", x.c, err, x.want)
			}
			full.same()
			if x.want != api.OK && !slices.Equal(full.b.Lines(), before) {
				t.Errorf("Put(%v): %v were %v", x.c, full.b.Lines(), before)
			}
			if x.want == api.OK {
				if c, ok := full.look(x.c.Space, x.c.Page); !ok || c != x.c {
					t.Errorf("Put(%v), and then Look: %v, %v", x.c, c, ok)
				}
			}
		}
	}
}

// P9.2 with numbers of all sorts in all fields.
func TestPutSorts(t *testing.T) {
	x := newPair(t, 3)
	orders := append([]int{-6, -2, 4, 5, 10, 32, 62}, sorts...)
	for _, order := range orders {
		for _, page := range sorts {
			for _, frame := range sorts {
				x.put(api.Cached{Space: 1, Page: page, Order: order, Frame: frame, Write: frame > page})
			}
		}
	}
	x.same()
	for _, order := range []int{0, 3, 6} {
		for _, space := range sorts {
			for _, page := range sorts {
				x.put(one(space, page, order, 64))
			}
			x.same()
		}
	}
}

// P9.2: all lines that hold one of its pages are dropped, and no other; ahead of the first one, which has to go only if there is no room then.
func TestPutDrops(t *testing.T) {
	for _, x := range []struct {
		name string
		size int
		puts []api.Cached
		want []api.Cached
	}{
		{"the page again, with another frame", 4,
			[]api.Cached{one(0, 1, 0, 1), one(0, 2, 0, 2), one(0, 1, 0, 3)},
			[]api.Cached{one(0, 2, 0, 2), one(0, 1, 0, 3)}},
		{"the same line again is the last one", 4,
			[]api.Cached{one(0, 1, 0, 1), one(0, 2, 0, 2), one(0, 1, 0, 1)},
			[]api.Cached{one(0, 2, 0, 2), one(0, 1, 0, 1)}},
		{"the same line again in a full buffer", 2,
			[]api.Cached{one(0, 1, 0, 1), one(0, 2, 0, 2), one(0, 2, 0, 2)},
			[]api.Cached{one(0, 1, 0, 1), one(0, 2, 0, 2)}},
		{"the page again in a full buffer", 2,
			[]api.Cached{one(0, 1, 0, 1), one(0, 2, 0, 2), one(0, 2, 0, 5)},
			[]api.Cached{one(0, 1, 0, 1), one(0, 2, 0, 5)}},
		{"the first one again in a full buffer", 2,
			[]api.Cached{one(0, 1, 0, 1), one(0, 2, 0, 2), one(0, 1, 0, 5)},
			[]api.Cached{one(0, 2, 0, 2), one(0, 1, 0, 5)}},
		{"a buffer of one", 1,
			[]api.Cached{one(0, 1, 0, 1), one(0, 2, 0, 2), one(1, 2, 0, 3)},
			[]api.Cached{one(1, 2, 0, 3)}},
		{"a page of another space", 4,
			[]api.Cached{one(0, 1, 0, 1), one(1, 1, 0, 2), one(2, 0, 3, 8), one(3, 0, 6, 64)},
			[]api.Cached{one(0, 1, 0, 1), one(1, 1, 0, 2), one(2, 0, 3, 8), one(3, 0, 6, 64)}},
		{"a huge one drops its pages, not those beside it", 9,
			[]api.Cached{one(0, 7, 0, 1), one(0, 8, 0, 2), one(0, 11, 0, 3), one(1, 11, 0, 4), one(0, 15, 0, 5), one(0, 16, 0, 6), one(0, 8, 3, 8)},
			[]api.Cached{one(0, 7, 0, 1), one(1, 11, 0, 4), one(0, 16, 0, 6), one(0, 8, 3, 8)}},
		{"a page drops its huge one", 4,
			[]api.Cached{one(0, 0, 3, 0), one(0, 8, 3, 8), one(0, 16, 3, 16), one(0, 15, 0, 5)},
			[]api.Cached{one(0, 0, 3, 0), one(0, 16, 3, 16), one(0, 15, 0, 5)}},
		{"a giant one drops huge ones and pages", 9,
			[]api.Cached{one(0, 63, 0, 1), one(0, 64, 0, 2), one(0, 72, 3, 8), one(0, 120, 3, 16), one(0, 119, 0, 3), one(0, 128, 3, 24), one(0, 56, 3, 32), one(0, 64, 6, 64)},
			[]api.Cached{one(0, 128, 3, 24), one(0, 56, 3, 32), one(0, 64, 6, 64)}},
		{"a huge one drops its giant one", 4,
			[]api.Cached{one(0, 0, 6, 0), one(0, 64, 6, 64), one(0, 56, 3, 8)},
			[]api.Cached{one(0, 64, 6, 64), one(0, 56, 3, 8)}},
		{"a page drops its giant one", 4,
			[]api.Cached{one(0, 4032, 6, 0), one(0, 3968, 6, 64), one(0, 4095, 0, 8)},
			[]api.Cached{one(0, 3968, 6, 64), one(0, 4095, 0, 8)}},
		{"in a full buffer, one is dropped and the first one stays", 3,
			[]api.Cached{one(0, 1, 0, 1), one(0, 8, 0, 2), one(0, 3, 0, 3), one(0, 8, 3, 8)},
			[]api.Cached{one(0, 1, 0, 1), one(0, 3, 0, 3), one(0, 8, 3, 8)}},
		{"in a full buffer, none is dropped and the first one goes", 3,
			[]api.Cached{one(0, 1, 0, 1), one(0, 2, 0, 2), one(0, 3, 0, 3), one(0, 8, 3, 8)},
			[]api.Cached{one(0, 2, 0, 2), one(0, 3, 0, 3), one(0, 8, 3, 8)}},
		{"in a full buffer, several are dropped, and there is room for more", 3,
			[]api.Cached{one(0, 9, 0, 1), one(0, 2, 0, 2), one(0, 10, 0, 3), one(0, 8, 3, 8), one(0, 1, 0, 4), one(0, 0, 0, 5)},
			[]api.Cached{one(0, 8, 3, 8), one(0, 1, 0, 4), one(0, 0, 0, 5)}},
		{"the same page, to be written", 3,
			[]api.Cached{one(0, 9, 0, 1), {Space: 0, Page: 9, Frame: 1, Write: true}},
			[]api.Cached{{Space: 0, Page: 9, Frame: 1, Write: true}}},
		{"two pages on one frame", 3,
			[]api.Cached{one(0, 9, 0, 1), one(0, 10, 0, 1), one(1, 8, 3, 0)},
			[]api.Cached{one(0, 9, 0, 1), one(0, 10, 0, 1), one(1, 8, 3, 0)}},
	} {
		p := newPair(t, x.size, x.puts...)
		if l := p.b.Lines(); !slices.Equal(l, x.want) {
			t.Errorf("%s: %v; want %v", x.name, l, x.want)
		}
		p.same()
	}
}

// P9.2: who was put first goes first, whatever was looked for since.
func TestPutFirstGoes(t *testing.T) {
	x := newPair(t, 3, one(0, 1, 0, 1), one(0, 2, 0, 2), one(0, 3, 0, 3))
	for range 5 {
		x.look(0, 1)
	}
	x.put(one(0, 4, 0, 4))
	if _, ok := x.look(0, 1); ok {
		t.Error("the page 1 is held, though it was put first")
	}
	x.drop(1)
	x.put(one(0, 5, 0, 5))
	x.put(one(0, 6, 0, 6))
	if l := x.b.Lines(); !slices.Equal(l, []api.Cached{one(0, 4, 0, 4), one(0, 5, 0, 5), one(0, 6, 0, 6)}) {
		t.Errorf("Lines: %v", l)
	}
}

// P9.2, P9.6: whatever of each order is there, a line of each order that meets it drops it.
func TestPutMeets(t *testing.T) {
	var l []api.Cached
	for _, order := range []int{0, 3, 6} {
		for page := 0; page < 192; page += 1 << order {
			l = append(l, one(0, page, order, page))
		}
	}
	for _, a := range l {
		for _, b := range l {
			meet := a.Page < b.Page+1<<b.Order && b.Page < a.Page+1<<a.Order
			x := newPair(t, 3, a, b)
			x.apart()
			if n := len(x.b.Lines()); meet != (n == 1) {
				t.Fatalf("%v and %v: %d lines", a, b, n)
			}
			b.Space = 1
			if x = newPair(t, 3, a, b); len(x.b.Lines()) != 2 {
				t.Fatalf("%v and %v of two spaces: the lines %v", a, b, x.b.Lines())
			}
		}
	}
}

// P9.3: of each page the line that holds it, and of no other page.
func TestLookAll(t *testing.T) {
	for _, order := range []int{0, 3, 6} {
		for first := 0; first < 4096; first += 1 << order {
			c := api.Cached{Space: 2, Page: first, Order: order, Frame: (first * 5) &^ (1<<order - 1), Write: first&64 == 0}
			x := newPair(t, 1, c)
			for page := first - 2; page < first+1<<order+2; page++ {
				got, ok := x.look(2, page)
				if held := page >= first && page < first+1<<order; ok != held || held && got != c {
					t.Fatalf("Look(2, %d) of %v: %v, %v", page, c, got, ok)
				}
				x.look(1, page)
				x.look(3, page)
			}
		}
	}
}

// P9.3 with numbers of all sorts.
func TestLookSorts(t *testing.T) {
	for _, space := range sorts {
		x := newPair(t, 5, one(max(space, 0), 0, 6, 64), one(max(space, 0), 4032, 6, 0), one(5, 4095, 0, 3), one(5, 0, 0, 4))
		for _, s := range append([]int{5}, sorts...) {
			for _, page := range sorts {
				if c, ok := x.look(s, page); ok && (c.Space != s || page < 0 || page > 4095) {
					t.Errorf("Look(%d, %d): %v", s, page, c)
				}
			}
		}
		x.same()
	}
}

// mixed are lines of all orders, with pages between them that none holds.
func mixed() []api.Cached {
	return []api.Cached{
		one(0, 0, 0, 5), one(0, 7, 0, 6), one(0, 8, 3, 8), one(1, 8, 3, 16), one(0, 16, 0, 7), one(0, 24, 3, 24), one(0, 18, 0, 9),
		one(0, 33, 0, 1), one(1, 0, 6, 64), one(0, 34, 0, 2), one(0, 40, 3, 32), one(0, 48, 3, 40), one(0, 62, 0, 3), one(0, 64, 6, 128),
	}
}

// P9.4, P9.7: each stretch of the first pages.
func TestFlushStretches(t *testing.T) {
	for page := -10; page < 132; page++ {
		for n := -2; n < 140; n++ {
			x := newPair(t, 16, mixed()...)
			x.flush(0, page, n)
			if again := x.flush(0, page, n); again != 0 {
				t.Fatalf("Flush(0, %d, %d) again: %d, want 0", page, n, again)
			}
		}
	}
}

// P9.4: written rows.
func TestFlushRows(t *testing.T) {
	for _, x := range []struct {
		space, page, n, want int
	}{
		{0, 0, 4096, 12},
		{1, 0, 4096, 1}, // the giant one dropped the huge one
		{2, 0, 4096, 0},
		{-1, 0, 4096, 0},
		{0, 8, 1, 1},
		{0, 15, 1, 1},
		{0, 11, 2, 1},
		{0, 15, 2, 2},
		{0, 7, 2, 2},
		{0, 7, 10, 3},
		{0, 17, 1, 0},
		{0, 17, 2, 1},
		{0, 1, 6, 0},
		{0, 1, 7, 1},
		{0, 31, 3, 2},
		{0, 32, 1, 0},
		{0, 35, 5, 0},
		{0, 35, 6, 1},
		{0, 47, 2, 2},
		{0, 63, 1, 0},
		{0, 63, 2, 1},
		{0, 127, 1, 1},
		{0, 128, 1, 0},
		{0, 100, 0, 0},
		{0, 100, -1, 0},
		{0, 11, 0, 0},
		{0, 11, -4, 0},
		{0, 11, math.MinInt, 0},
		{0, -1, 1, 0},
		{0, -1, 2, 1},
		{0, -8, 8, 0},
		{0, -8, 9, 1},
		{0, 64, math.MaxInt, 1},
		{0, 0, math.MaxInt, 12},
		{0, -1, math.MaxInt, 12},
		{0, math.MinInt, math.MaxInt, 0},
		{0, math.MinInt, math.MinInt, 0},
		{0, math.MaxInt, math.MaxInt, 0},
		{0, -math.MaxInt, math.MaxInt, 0},
		{0, -math.MaxInt + 1, math.MaxInt, 1},
		{0, 4096, math.MaxInt, 0},
	} {
		p := newPair(t, 64, mixed()...)
		if got := p.flush(x.space, x.page, x.n); got != x.want {
			t.Errorf("Flush(%d, %d, %d): %d, want %d", x.space, x.page, x.n, got, x.want)
		}
		p.same()
	}
}

// P9.4, P9.7: numbers of all sorts, with lines at both ends of the pages.
func TestFlushSorts(t *testing.T) {
	l := []api.Cached{
		one(0, 0, 0, 1), one(0, 1, 0, 2), one(0, 8, 3, 8), one(0, 64, 6, 64), one(7, 8, 3, 8), one(0, 4032, 0, 3),
		one(0, 4080, 3, 16), one(0, 4088, 0, 5), one(0, 4095, 0, 6), one(7, 4032, 6, 128),
	}
	for _, page := range sorts {
		for _, n := range sorts {
			for _, space := range []int{0, 7, -1} {
				x := newPair(t, 16, l...)
				x.flush(space, page, n)
			}
		}
	}
	for _, space := range sorts {
		x := newPair(t, 16, l...)
		x.flush(space, 0, 4096)
		x.same()
	}
}

// P9.4, P9.7: a flush of a full buffer drops the first, the last, all, each second one, and leaves the others in their order.
func TestFlushFull(t *testing.T) {
	for size := 1; size <= 64; size++ {
		for _, step := range []int{1, 2, 3, 8} {
			x := newPair(t, size)
			for i := range size {
				x.put(one(i%step, i*5%64, 0, i))
			}
			x.flush(0, 0, 1)
			x.flush(0, (size-1)*5%64, 1)
			x.flush(0, 20, 20)
			x.flush(step-1, 0, 64)
			x.same()
			for i := range size {
				x.put(one(i%step, i, 0, i+3))
			}
			x.same()
		}
	}
}

// P9.4: FlushSpace drops all of a space, of all orders, and nothing else.
func TestFlushSpace(t *testing.T) {
	l := []api.Cached{
		one(0, 0, 0, 1), one(1, 0, 0, 2), one(0, 8, 3, 8), one(2, 4032, 6, 64), one(math.MaxInt, 4095, 0, 3), one(1, 4088, 3, 16),
		one(0, 64, 6, 64), one(0, 4095, 0, 9), one(2, 0, 0, 1), one(math.MaxInt, 0, 6, 0),
	}
	for _, x := range []struct{ space, want int }{
		{0, 4}, {1, 2}, {2, 2}, {math.MaxInt, 2}, {3, 0}, {-1, 0}, {math.MinInt, 0}, {math.MaxInt - 1, 0},
	} {
		p := newPair(t, 10, l...)
		if n := p.flushSpace(x.space); n != x.want {
			t.Errorf("FlushSpace(%d): %d, want %d", x.space, n, x.want)
		}
		if n := p.flushSpace(x.space); n != 0 {
			t.Errorf("FlushSpace(%d) again: %d, want 0", x.space, n)
		}
		p.same()
	}
	p := newPair(t, 10, l...)
	for _, space := range sorts {
		p.flushSpace(space)
	}
	p.same()
}

// P9.4: each place of each number of lines is dropped, and none beside them.
func TestDrop(t *testing.T) {
	for size := range 20 {
		for i := -3; i < size+3; i++ {
			x := newPair(t, 20)
			for j := range size {
				x.put(one(j%2, j*8, 3, j*8))
			}
			want := api.OK
			if i < 0 || i >= size {
				want = api.ErrRange
			}
			if err := x.drop(i); err != want {
				t.Errorf("of %d lines, Drop(%d): %d, want %d", size, i, err, want)
			}
			x.same()
		}
	}
}

// P9.4: Drop of numbers of all sorts.
func TestDropSorts(t *testing.T) {
	x := newPair(t, 64)
	for i := range 64 {
		x.put(one(0, i, 0, i))
	}
	for _, i := range sorts {
		want := api.ErrRange
		if i >= 0 && i < len(x.m.lines) {
			want = api.OK
		}
		if err := x.drop(i); err != want {
			t.Errorf("Drop(%d): %d, want %d", i, err, want)
		}
	}
	x.same()
	for len(x.m.lines) > 0 {
		x.drop(len(x.m.lines) - 1)
	}
	for _, i := range sorts {
		if err := x.drop(i); err != api.ErrRange {
			t.Errorf("Drop(%d) of none: %d, want ErrRange", i, err)
		}
	}
}

// P9.5, R3: what is told is new memory, without room behind it, and stays as it was told.
func TestLinesNew(t *testing.T) {
	for n := range 65 {
		x := newPair(t, 64)
		for i := range n {
			x.put(one(0, i, 0, i))
		}
		told, other := x.b.Lines(), x.b.Lines()
		if cap(told) != len(told) {
			t.Errorf("%d lines are told with room for %d", len(told), cap(told))
		}
		for i := range told {
			told[i] = one(9, 9, 0, 9)
		}
		_ = append(told, one(8, 8, 0, 8))
		x.same()
		if !slices.Equal(other, x.m.lines) {
			t.Errorf("two answers share their memory: %v", other)
		}
		want := slices.Clone(other)
		x.put(one(0, 100, 0, 1))
		x.put(one(0, 101, 0, 2))
		x.drop(0)
		x.flush(0, 0, 4096)
		x.put(one(0, 7, 0, 7))
		if !slices.Equal(other, want) {
			t.Errorf("what was told became %v; was %v", other, want)
		}
	}
}

// R4: two buffers know nothing of each other, and answer alike.
func TestTwo(t *testing.T) {
	x, y := newPair(t, 4), newPair(t, 4)
	c, d := chance(3), chance(3)
	for range 50 {
		x.put(c.line(2, 64))
	}
	y.same()
	for range 50 {
		y.put(d.line(2, 64))
	}
	x.same()
	if !slices.Equal(x.b.Lines(), y.b.Lines()) {
		t.Errorf("%v and %v", x.b.Lines(), y.b.Lines())
	}
}

// P9.2 to P9.7: long rows of calls, in buffers of small and great sizes, with few pages and many.
func TestRows(t *testing.T) {
	c := chance(1)
	for _, size := range []int{1, 2, 3, 5, 8, 17, 63, 64} {
		for _, pages := range []int{20, 140, 600, 4096} {
			x := newPair(t, size)
			for step := range 400 {
				switch c.below(10) {
				case 0:
					x.flush(c.below(4), c.below(pages), c.below(12)-1)
				case 1:
					if c.below(4) == 0 {
						x.flush(c.below(4), c.below(pages)-10, c.below(pages))
					}
				case 2:
					x.drop(c.below(size + 1))
				case 3:
					if c.below(8) == 0 {
						x.flushSpace(c.below(4))
					}
				case 4:
					x.put(api.Cached{Space: c.below(3) - 1, Page: c.below(pages), Order: c.below(8), Frame: c.below(1 << 20)})
				default:
					x.put(c.line(3, pages))
				}
				x.look(c.below(3), c.below(pages))
				x.apart()
				if step%40 == 0 {
					x.same()
				}
			}
			x.same()
		}
	}
}
