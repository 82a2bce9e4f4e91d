package kinds_test

import (
	"cmp"
	"math"
	"slices"
	"testing"

	"pantile/api"
	"pantile/buddy"
	"pantile/kinds"
)

// Numbers of all sorts: around 0, the ends of what there is, and of what a number can be.
var sorts = []int{
	math.MinInt, math.MinInt + 1, math.MinInt + 256, math.MinInt / 2, -1 << 32, -1024, -256, -9, -8, -7, -3, -2, -1,
	0, 1, 2, 3, 4, 5, 7, 8, 9, 16, 31, 32, 63, 64, 100, 124, 125, 127, 128, 129, 255, 256, 512, 999, 1000, 1023, 1024, 1025, 1280, 2048,
	1 << 32, math.MaxInt / 2, math.MaxInt - 255, math.MaxInt - 7, math.MaxInt - 1, math.MaxInt,
}

// The kinds that may be asked of Take, and all of them.
var (
	askedKinds = []int{api.Unmovable, api.Movable, api.Reclaim}
	allKinds   = []int{api.Unmovable, api.Movable, api.Reclaim, api.Isolate}
)

// model says the chapter's words: the free frames are chapter 4's, each frame has its section's kind.
type model struct {
	free *buddy.Buddy
	kind []int
}

// allOf makes a list of sections that all are of a kind.
func allOf(frames, kind int) []int {
	return slices.Repeat([]int{kind}, (frames+7)/8)
}

// sections tells the sections that a block has frames in.
func (m model) sections(b api.Block) []int {
	var l []int
	for at := range m.kind {
		if at*8 < b.Frame+1<<b.Order && b.Frame < at*8+8 {
			l = append(l, at)
		}
	}
	return l
}

// pieces says the chapter's word.
func (m model) pieces() []api.Block {
	var l []api.Block
	for _, b := range m.free.Blocks() {
		apart := false
		for _, at := range m.sections(b) {
			apart = apart || b.Order > 3 && m.kind[at] == api.Isolate
		}
		if !apart {
			l = append(l, b)
			continue
		}
		for _, at := range m.sections(b) {
			l = append(l, api.Block{Frame: at * 8, Order: 3})
		}
	}
	return l
}

// rank tells how early a kind is asked: 0 its own, 9 never.
func rank(asked, kind int) int {
	switch [2]int{asked, kind} {
	case [2]int{0, 0}, [2]int{1, 1}, [2]int{2, 2}:
		return 0
	case [2]int{0, 2}, [2]int{1, 2}, [2]int{2, 0}:
		return 1
	case [2]int{0, 1}, [2]int{1, 0}, [2]int{2, 1}:
		return 2
	}
	return 9
}

// best tells the piece that P5.2 takes from: all that will do are sorted.
func (m model) best(order, kind int) (api.Block, bool) {
	of := func(b api.Block) int { return rank(kind, m.kind[b.Frame/8]) }
	l := slices.DeleteFunc(m.pieces(), func(b api.Block) bool { return b.Order < order || of(b) == 9 })
	if len(l) == 0 {
		return api.Block{}, false
	}
	slices.SortFunc(l, func(x, y api.Block) int {
		byOrder := cmp.Compare(y.Order, x.Order)
		if of(x) == 0 {
			byOrder = cmp.Compare(x.Order, y.Order)
		}
		return cmp.Or(cmp.Compare(of(x), of(y)), byOrder, cmp.Compare(x.Frame, y.Frame))
	})
	return l[0], true
}

// take says P5.2.
func (m model) take(order, kind int) (int, api.Errno) {
	if order < 0 || order > 8 || kind < 0 || kind > 2 {
		return 0, api.ErrArg
	}
	b, ok := m.best(order, kind)
	if !ok {
		return 0, api.ErrMem
	}
	if b.Order >= 3 && m.kind[b.Frame/8] != kind {
		for _, at := range m.sections(api.Block{Frame: b.Frame, Order: order}) {
			m.kind[at] = kind
		}
	}
	return b.Frame, m.free.TakeAt(b.Frame, order)
}

// set says P5.4.
func (m model) set(section, kind int) api.Errno {
	switch {
	case section < 0 || section >= len(m.kind):
		return api.ErrRange
	case kind < 0 || kind > 3:
		return api.ErrArg
	}
	m.kind[section] = kind
	return api.OK
}

// freeOf says P5.5.
func (m model) freeOf(kind, frames int) int {
	n := 0
	for frame := range frames {
		if m.free.Has(frame) && m.kind[frame/8] == kind {
			n++
		}
	}
	return n
}

// pair is free frames by kinds, and what they should be.
type pair struct {
	t      *testing.T
	frames int
	k      *kinds.Kinds
	m      model
}

func newPair(t *testing.T, frames int) pair {
	t.Helper()
	k, err := kinds.New(frames)
	if k == nil || err != api.OK {
		t.Fatalf("New(%d): %v, %d", frames, k, err)
	}
	b, _ := buddy.New(frames)
	return pair{t, frames, k, model{b, allOf(frames, api.Movable)}}
}

// made makes a pair of these sections' kinds, of which these blocks are not free.
func made(t *testing.T, frames int, of []int, gone ...api.Block) pair {
	t.Helper()
	x := newPair(t, frames)
	for at, kind := range of {
		x.set(at, kind)
	}
	for _, b := range gone {
		x.takeAt(b.Frame, b.Order)
	}
	return x
}

func (x pair) take(order, kind int) (int, api.Errno) {
	x.t.Helper()
	free, of := x.m.free.Blocks(), slices.Clone(x.m.kind)
	want, wantErr := x.m.take(order, kind)
	got, err := x.k.Take(order, kind)
	if got != want || err != wantErr {
		x.t.Fatalf("Take(%d, %d) of %v, %v: %d, %d; want %d, %d", order, kind, free, of, got, err, want, wantErr)
	}
	return got, err
}

func (x pair) takeAt(frame, order int) api.Errno {
	x.t.Helper()
	want, got := x.m.free.TakeAt(frame, order), x.k.TakeAt(frame, order)
	if got != want {
		x.t.Fatalf("TakeAt(%d, %d): %d, want %d", frame, order, got, want)
	}
	return got
}

func (x pair) give(frame, order int) api.Errno {
	x.t.Helper()
	want, got := x.m.free.Give(frame, order), x.k.Give(frame, order)
	if got != want {
		x.t.Fatalf("Give(%d, %d): %d, want %d", frame, order, got, want)
	}
	return got
}

func (x pair) set(section, kind int) api.Errno {
	x.t.Helper()
	want, got := x.m.set(section, kind), x.k.Set(section, kind)
	if got != want {
		x.t.Fatalf("Set(%d, %d): %d, want %d", section, kind, got, want)
	}
	return got
}

// ofKinds: each frame has its kind, beyond the ends there is none.
func (x pair) ofKinds() {
	x.t.Helper()
	for frame := -9; frame <= x.frames+9; frame++ {
		want := -1
		if frame >= 0 && frame < x.frames {
			want = x.m.kind[frame/8]
		}
		if got := x.k.Kind(frame); got != want {
			x.t.Fatalf("Kind(%d) of %v: %d, want %d", frame, x.m.kind, got, want)
		}
	}
}

// same: all that can be looked at is as it should be.
func (x pair) same() {
	x.t.Helper()
	x.ofKinds()
	want := x.m.free.Blocks()
	if got := x.k.Blocks(); !slices.Equal(got, want) {
		x.t.Fatalf("Blocks: %v, want %v", got, want)
	}
	if got := x.k.Free(); got != x.m.free.Free() {
		x.t.Fatalf("Free of %v: %d, want %d", want, got, x.m.free.Free())
	}
	for kind := -1; kind <= 4; kind++ {
		if got, n := x.k.FreeOf(kind), x.m.freeOf(kind, x.frames); got != n {
			x.t.Fatalf("FreeOf(%d) of %v, %v: %d, want %d", kind, want, x.m.kind, got, n)
		}
	}
	for frame := -1; frame <= x.frames; frame++ {
		if got := x.k.Has(frame); got != x.m.free.Has(frame) {
			x.t.Fatalf("Has(%d) of %v: %v", frame, want, got)
		}
	}
}

// chance makes numbers in a row that always is the same.
type chance uint64

func (c *chance) below(n int) int {
	*c = *c*6364136223846793005 + 1442695040888963407
	return int(uint64(*c) >> 33 % uint64(n))
}

// The chapter's example.
func TestExample(t *testing.T) {
	k, err := kinds.New(16)
	if err != api.OK {
		t.Fatal(err)
	}
	for i, x := range []struct{ kind, frame, first, second int }{
		{api.Unmovable, 0, api.Unmovable, api.Movable},
		{api.Movable, 8, api.Unmovable, api.Movable},
		{api.Unmovable, 1, api.Unmovable, api.Movable},
	} {
		if f, err := k.Take(0, x.kind); f != x.frame || err != api.OK {
			t.Errorf("%d: Take(0, %d): %d, %d; want %d", i, x.kind, f, err, x.frame)
		}
		if k.Kind(7) != x.first || k.Kind(8) != x.second {
			t.Errorf("%d: the sections are %d, %d; want %d, %d", i, k.Kind(7), k.Kind(8), x.first, x.second)
		}
	}
}

// P5.1: all frames are free and movable, however many.
func TestNew(t *testing.T) {
	for frames := 8; frames <= 1024; frames++ {
		x := newPair(t, frames)
		x.ofKinds()
		if x.k.Free() != frames || x.k.FreeOf(api.Movable) != frames || !slices.Equal(x.k.Blocks(), x.m.free.Blocks()) {
			t.Errorf("New(%d): %d, %d, %v", frames, x.k.Free(), x.k.FreeOf(api.Movable), x.k.Blocks())
		}
		if frames%50 < 8 {
			x.same()
		}
	}
}

// P5.1: buddy.New's error.
func TestNewErrors(t *testing.T) {
	for _, frames := range append([]int{6, 7, 1025, 1026}, sorts...) {
		k, err := kinds.New(frames)
		b, want := buddy.New(frames)
		if err != want || (k == nil) != (b == nil) {
			t.Errorf("New(%d): %v, %d; want %d", frames, k, err, want)
		}
	}
	for _, frames := range []int{math.MinInt, -8, 0, 7, 1025, math.MaxInt} {
		if k, err := kinds.New(frames); k != nil || err != api.ErrArg {
			t.Errorf("New(%d): %v, %d; want nil, ErrArg", frames, k, err)
		}
	}
}

// row is a Take, written out: the sections' kinds and what is gone ahead of it; what it answers, and the kinds after it.
type row struct {
	name        string
	of          []int
	gone        []api.Block
	order, kind int
	frame       int
	err         api.Errno
	after       []int
}

func takeRows(t *testing.T, frames int, rows []row) {
	t.Helper()
	for _, r := range rows {
		x := made(t, frames, r.of, r.gone...)
		free := x.k.Free()
		if f, err := x.k.Take(r.order, r.kind); f != r.frame || err != r.err {
			t.Errorf("%s: Take(%d, %d) of %v: %d, %d; want %d, %d", r.name, r.order, r.kind, r.of, f, err, r.frame, r.err)
			continue
		}
		var after []int
		for frame := 0; frame < frames; frame += 8 {
			after = append(after, x.k.Kind(frame))
		}
		if !slices.Equal(after, r.after) {
			t.Errorf("%s: Take(%d, %d) of %v: the kinds are %v, want %v", r.name, r.order, r.kind, r.of, after, r.after)
		}
		if r.err != api.OK {
			x.same()
			continue
		}
		if free-x.k.Free() != 1<<r.order {
			t.Errorf("%s: Take(%d, %d) of %v has taken %d", r.name, r.order, r.kind, r.of, free-x.k.Free())
		}
		for i := range 1 << r.order {
			if x.k.Has(r.frame + i) {
				t.Errorf("%s: Take(%d, %d) of %v: %d is free", r.name, r.order, r.kind, r.of, r.frame+i)
			}
		}
	}
}

const (
	un = api.Unmovable
	mo = api.Movable
	re = api.Reclaim
	is = api.Isolate
)

func at(frame, order int) api.Block { return api.Block{Frame: frame, Order: order} }

// P5.2 and P5.7: of its own kind the least order, then the least frame; the kinds stay.
func TestTakeOwn(t *testing.T) {
	takeRows(t, 32, []row{
		{"the whole", []int{mo, mo, mo, mo}, nil, 0, mo, 0, api.OK, []int{mo, mo, mo, mo}},
		{"the whole", []int{re, re, re, re}, nil, 5, re, 0, api.OK, []int{re, re, re, re}},
		{"the least order", []int{mo, mo, mo, mo}, []api.Block{at(4, 0), at(29, 0)}, 0, mo, 5, api.OK, []int{mo, mo, mo, mo}},
		{"the least order", []int{mo, mo, mo, mo}, []api.Block{at(29, 0)}, 0, mo, 28, api.OK, []int{mo, mo, mo, mo}},
		{"the least that will do", []int{mo, mo, mo, mo}, []api.Block{at(29, 0)}, 1, mo, 30, api.OK, []int{mo, mo, mo, mo}},
		{"the least that will do", []int{mo, mo, mo, mo}, []api.Block{at(29, 0)}, 3, mo, 16, api.OK, []int{mo, mo, mo, mo}},
		{"just one", []int{mo, mo, mo, mo}, []api.Block{at(29, 0)}, 4, mo, 0, api.OK, []int{mo, mo, mo, mo}},
		{"its own at the end", []int{un, un, un, re}, []api.Block{at(0, 4), at(24, 1)}, 0, re, 26, api.OK, []int{un, un, un, re}},
		{"its own, though others are greater", []int{mo, mo, mo, un}, []api.Block{at(16, 3), at(24, 2), at(28, 1), at(30, 0)}, 0, un, 31, api.OK, []int{mo, mo, mo, un}},
		{"its own, though others are less", []int{mo, un, mo, mo}, []api.Block{at(0, 0), at(16, 4)}, 0, un, 8, api.OK, []int{mo, un, mo, mo}},
		{"its first section is its own", []int{mo, un, re, re}, nil, 5, mo, 0, api.OK, []int{mo, un, re, re}},
		{"its first section is its own", []int{mo, un, re, un}, []api.Block{at(0, 4)}, 4, re, 16, api.OK, []int{mo, un, re, un}},
	})
}

// P5.2: where its own kind has none that is great enough, the others in their order; what is stolen changes its kind.
func TestTakeStolen(t *testing.T) {
	first := at(0, 3)
	takeRows(t, 32, []row{
		{"Reclaim ahead of Movable", []int{un, mo, re, re}, []api.Block{first}, 0, un, 16, api.OK, []int{un, mo, un, re}},
		{"Reclaim ahead of a greater Movable", []int{mo, mo, un, re}, []api.Block{at(16, 3)}, 0, un, 24, api.OK, []int{mo, mo, un, un}},
		{"Movable at the end", []int{un, mo, mo, mo}, []api.Block{first}, 0, un, 16, api.OK, []int{un, mo, un, mo}},
		{"Reclaim ahead of Unmovable", []int{mo, un, re, re}, []api.Block{first}, 3, mo, 16, api.OK, []int{mo, un, mo, re}},
		{"Reclaim ahead of a greater Unmovable", []int{un, un, mo, re}, []api.Block{at(16, 3)}, 2, mo, 24, api.OK, []int{un, un, mo, mo}},
		{"Unmovable at the end", []int{mo, un, un, un}, []api.Block{first}, 4, mo, 16, api.OK, []int{mo, un, mo, mo}},
		{"Unmovable ahead of Movable", []int{re, mo, un, un}, []api.Block{first}, 1, re, 16, api.OK, []int{re, mo, re, un}},
		{"Unmovable ahead of a greater Movable", []int{mo, mo, re, un}, []api.Block{at(16, 3)}, 0, re, 24, api.OK, []int{mo, mo, re, re}},
		{"Movable at the end", []int{re, mo, mo, mo}, []api.Block{first}, 0, re, 16, api.OK, []int{re, mo, re, mo}},
		{"its own is too small", []int{un, mo, mo, mo}, []api.Block{at(0, 2)}, 3, un, 16, api.OK, []int{un, mo, un, mo}},
		{"the first kind is too small", []int{un, re, mo, mo}, []api.Block{first, at(8, 0)}, 3, un, 16, api.OK, []int{un, re, un, mo}},
		{"the first kind is not too small", []int{un, re, mo, mo}, []api.Block{first, at(8, 0)}, 2, un, 12, api.OK, []int{un, re, mo, mo}},
	})
}

// P5.2: of what is stolen the greatest order, then the least frame.
func TestTakeStolenGreatest(t *testing.T) {
	takeRows(t, 64, []row{
		{"the least frame", allOf(64, mo), nil, 0, un, 0, api.OK, []int{un, mo, mo, mo, mo, mo, mo, mo}},
		{"the greatest", allOf(64, mo), []api.Block{at(0, 0)}, 0, un, 32, api.OK, []int{mo, mo, mo, mo, un, mo, mo, mo}},
		{"the greatest", allOf(64, mo), []api.Block{at(0, 0), at(63, 0)}, 0, un, 16, api.OK, []int{mo, mo, un, mo, mo, mo, mo, mo}},
		{"the greatest", allOf(64, re), []api.Block{at(0, 4), at(63, 0), at(24, 0), at(32, 4)}, 0, mo, 16, api.OK, []int{re, re, mo, re, re, re, re, re}},
		{"the least frame of the greatest", allOf(64, re), []api.Block{at(0, 3), at(24, 0), at(33, 0), at(42, 0), at(51, 0), at(60, 0)}, 0, mo, 8, api.OK, []int{re, mo, re, re, re, re, re, re}},
	})
}

// P5.2: which sections change, and from which order of the piece on.
func TestTakeSections(t *testing.T) {
	// Of the section 1 so much is gone that a piece of a lesser order is the greatest.
	only := func(gone ...api.Block) []api.Block { return append(gone, at(0, 3), at(16, 4), at(32, 5)) }
	takeRows(t, 64, []row{
		{"order 3", allOf(64, mo), only(), 0, un, 8, api.OK, []int{mo, un, mo, mo, mo, mo, mo, mo}},
		{"order 3", allOf(64, mo), only(), 3, un, 8, api.OK, []int{mo, un, mo, mo, mo, mo, mo, mo}},
		{"order 2", allOf(64, mo), only(at(8, 0)), 0, un, 12, api.OK, allOf(64, mo)},
		{"order 2", allOf(64, mo), only(at(8, 0)), 2, un, 12, api.OK, allOf(64, mo)},
		{"order 1", allOf(64, mo), only(at(8, 0), at(12, 2)), 0, un, 10, api.OK, allOf(64, mo)},
		{"order 0", allOf(64, mo), only(at(8, 1), at(11, 0), at(12, 2)), 0, un, 10, api.OK, allOf(64, mo)},
		{"one of eight", allOf(64, mo), nil, 3, re, 0, api.OK, []int{re, mo, mo, mo, mo, mo, mo, mo}},
		{"two of eight", allOf(64, mo), nil, 4, re, 0, api.OK, []int{re, re, mo, mo, mo, mo, mo, mo}},
		{"four of eight", allOf(64, mo), nil, 5, re, 0, api.OK, []int{re, re, re, re, mo, mo, mo, mo}},
		{"all", allOf(64, mo), nil, 6, re, 0, api.OK, allOf(64, re)},
		{"the last ones", allOf(64, mo), []api.Block{at(0, 5)}, 4, re, 32, api.OK, []int{mo, mo, mo, mo, re, re, mo, mo}},
		{"of several kinds", []int{mo, un, re, mo, un, re, mo, un}, nil, 5, un, 0, api.OK, []int{un, un, un, un, un, re, mo, un}},
		{"its own is not the first", []int{mo, un, un, un, un, un, un, un}, nil, 3, un, 0, api.OK, []int{un, un, un, un, un, un, un, un}},
	})
}

// P5.2 and P5.6: a great block in which a section is isolated counts as its sections; what is isolated is not taken.
func TestTakeIsolated(t *testing.T) {
	takeRows(t, 32, []row{
		{"the first", []int{is, mo, mo, mo}, nil, 0, mo, 8, api.OK, []int{is, mo, mo, mo}},
		{"the first", []int{is, mo, mo, mo}, nil, 3, mo, 8, api.OK, []int{is, mo, mo, mo}},
		{"a middle one", []int{mo, is, mo, mo}, nil, 3, mo, 0, api.OK, []int{mo, is, mo, mo}},
		{"the last", []int{mo, mo, mo, is}, nil, 3, un, 0, api.OK, []int{un, mo, mo, is}},
		{"no greater one", []int{mo, mo, mo, is}, nil, 4, mo, 0, api.ErrMem, []int{mo, mo, mo, is}},
		{"no greater one", []int{is, mo, mo, mo}, nil, 5, un, 0, api.ErrMem, []int{is, mo, mo, mo}},
		{"another block is whole", []int{mo, mo, mo, is}, []api.Block{at(16, 0)}, 4, mo, 0, api.OK, []int{mo, mo, mo, is}},
		{"another block is whole", []int{is, mo, mo, mo}, []api.Block{at(8, 0)}, 4, re, 16, api.OK, []int{is, mo, re, re}},
		{"a section's own kind", []int{mo, is, re, un}, nil, 0, un, 24, api.OK, []int{mo, is, re, un}},
		{"a section's own kind", []int{mo, is, re, un}, nil, 2, re, 16, api.OK, []int{mo, is, re, un}},
		{"sections are stolen one by one", []int{is, mo, mo, re}, nil, 0, un, 24, api.OK, []int{is, mo, mo, un}},
		{"sections are stolen one by one", []int{is, mo, mo, mo}, nil, 0, un, 8, api.OK, []int{is, un, mo, mo}},
		{"lesser ones of its kind", []int{is, mo, mo, mo}, []api.Block{at(24, 0), at(16, 3)}, 0, mo, 25, api.OK, []int{is, mo, mo, mo}},
		{"a section in pieces", []int{is, mo, mo, mo}, []api.Block{at(0, 0), at(8, 3), at(16, 4)}, 0, mo, 0, api.ErrMem, []int{is, mo, mo, mo}},
		{"a section in pieces", []int{mo, mo, is, mo}, []api.Block{at(0, 4), at(24, 3), at(20, 2)}, 2, mo, 0, api.ErrMem, []int{mo, mo, is, mo}},
		{"a section alone", []int{mo, mo, is, mo}, []api.Block{at(0, 4), at(24, 3)}, 0, re, 0, api.ErrMem, []int{mo, mo, is, mo}},
		{"all", []int{is, is, is, is}, nil, 0, mo, 0, api.ErrMem, []int{is, is, is, is}},
		{"all that is free", []int{un, re, is, is}, []api.Block{at(0, 4)}, 0, un, 0, api.ErrMem, []int{un, re, is, is}},
	})
}

// P5.2 of what is not there: memory that is all taken, or too much in pieces.
func TestTakeNoMemory(t *testing.T) {
	takeRows(t, 24, []row{
		{"a great one", []int{mo, mo, mo}, nil, 5, mo, 0, api.ErrMem, []int{mo, mo, mo}},
		{"the greatest", []int{mo, mo, mo}, nil, 8, un, 0, api.ErrMem, []int{mo, mo, mo}},
		{"nothing", []int{mo, un, re}, []api.Block{at(0, 4), at(16, 3)}, 0, re, 0, api.ErrMem, []int{mo, un, re}},
		{"pieces", []int{mo, un, re}, []api.Block{at(3, 0), at(9, 0), at(23, 0)}, 3, un, 0, api.ErrMem, []int{mo, un, re}},
		{"not even", []int{mo, mo, mo}, []api.Block{at(0, 3)}, 4, mo, 0, api.ErrMem, []int{mo, mo, mo}},
	})
}

// P5.2 of the last section, that has fewer frames.
func TestTakeLast(t *testing.T) {
	takeRows(t, 13, []row{
		{"its own", []int{mo, un}, nil, 0, un, 12, api.OK, []int{mo, un}},
		{"its own", []int{mo, un}, nil, 2, un, 8, api.OK, []int{mo, un}},
		{"too small", []int{mo, un}, nil, 3, un, 0, api.OK, []int{un, un}},
		{"stolen, and not changed", []int{mo, mo}, []api.Block{at(0, 3)}, 0, un, 8, api.OK, []int{mo, mo}},
		{"isolated", []int{mo, is}, []api.Block{at(0, 3)}, 0, mo, 0, api.ErrMem, []int{mo, is}},
	})
}

// P5.2 with the greatest order, of the most frames.
func TestTakeTop(t *testing.T) {
	x := newPair(t, 1024)
	x.set(64, api.Isolate)
	for n, want := range []int{0, 256, 768} {
		kind := askedKinds[n]
		if f, err := x.take(8, kind); f != want || err != api.OK {
			t.Errorf("Take(8, %d): %d, %d; want %d", kind, f, err, want)
		}
		for frame := want; frame < want+256; frame += 8 {
			if got := x.k.Kind(frame); got != kind {
				t.Errorf("Kind(%d): %d, want %d", frame, got, kind)
			}
		}
	}
	if f, err := x.take(8, api.Movable); f != 0 || err != api.ErrMem {
		t.Errorf("Take(8, 1) of what is isolated: %d, %d", f, err)
	}
	x.set(64, api.Reclaim)
	if f, err := x.take(8, api.Movable); f != 512 || err != api.OK {
		t.Errorf("Take(8, 1) of what is isolated no more: %d, %d", f, err)
	}
	x.same()
}

// P5.2 of arguments that may not be: ErrArg comes ahead of ErrMem, and nothing changes.
func TestTakeErrors(t *testing.T) {
	full := newPair(t, 1000)
	empty := made(t, 8, nil, at(0, 3))
	for _, x := range []pair{full, empty} {
		for _, order := range sorts {
			for _, kind := range sorts {
				if order >= 0 && order <= 8 && kind >= 0 && kind <= 2 {
					continue
				}
				if f, err := x.k.Take(order, kind); f != 0 || err != api.ErrArg {
					t.Errorf("Take(%d, %d): %d, %d; want 0, ErrArg", order, kind, f, err)
				}
			}
		}
		x.same()
	}
	for order := range 9 {
		for _, kind := range askedKinds {
			if f, err := empty.take(order, kind); f != 0 || err != api.ErrMem {
				t.Errorf("Take(%d, %d) of nothing: %d, %d", order, kind, f, err)
			}
		}
		if f, err := full.k.Take(order, api.Isolate); f != 0 || err != api.ErrArg {
			t.Errorf("Take(%d, Isolate): %d, %d; want 0, ErrArg", order, f, err)
		}
	}
	empty.same()
	full.same()
}

// digits calls with all lists of so many numbers below a base.
func digits(n, base int, call func(l []int)) {
	l := make([]int, n)
	for {
		call(slices.Clone(l))
		at := 0
		for at < n && l[at] == base-1 {
			l[at] = 0
			at++
		}
		if at == n {
			return
		}
		l[at]++
	}
}

// P5.2, P5.6 and P5.7 of three sections of all kinds, each of them whole, taken or in pieces: each Take.
func TestTakeEverySet(t *testing.T) {
	shapes := [][]api.Block{nil, {at(0, 3)}, {at(0, 2)}, {at(7, 0)}, {at(0, 0), at(5, 0)}}
	digits(3, len(shapes), func(shape []int) {
		var gone []api.Block
		for section, s := range shape {
			for _, b := range shapes[s] {
				gone = append(gone, at(section*8+b.Frame, b.Order))
			}
		}
		digits(3, 4, func(of []int) {
			for order := range 5 {
				for _, kind := range askedKinds {
					x := made(t, 24, of, gone...)
					x.taken(order, kind)
					x.ofKinds()
				}
			}
		})
	})
}

// P5.2 of five sections of all kinds that are free: each Take.
func TestTakeEveryKind(t *testing.T) {
	digits(5, 4, func(of []int) {
		for order := range 7 {
			for _, kind := range askedKinds {
				x := made(t, 40, of)
				x.taken(order, kind)
				x.same()
			}
		}
	})
}

// taken takes, and looks at P5.6 and P5.7 of what is taken.
func (x pair) taken(order, kind int) (int, api.Errno) {
	x.t.Helper()
	free, of := x.m.free.Blocks(), slices.Clone(x.m.kind)
	open := 0
	for frame := range x.frames {
		if x.k.Has(frame) && of[frame/8] != api.Isolate {
			open++
		}
	}
	own := slices.ContainsFunc(x.m.pieces(), func(b api.Block) bool { return b.Order >= order && of[b.Frame/8] == kind })
	f, err := x.take(order, kind)
	switch {
	case err == api.ErrMem && order == 0 && open > 0:
		x.t.Fatalf("Take(0, %d) of %v, %v: ErrMem, though %d are free", kind, free, of, open)
	case err == api.ErrMem && own:
		x.t.Fatalf("Take(%d, %d) of %v, %v: ErrMem, though there is one of its kind", order, kind, free, of)
	case err != api.OK:
		return f, err
	case own && of[f/8] != kind:
		x.t.Fatalf("Take(%d, %d) of %v, %v: %d is not of its kind", order, kind, free, of, f)
	}
	for frame := f; frame < f+1<<order; frame++ {
		if of[frame/8] == api.Isolate || x.k.Has(frame) {
			x.t.Fatalf("Take(%d, %d) of %v, %v: %d is isolated, or free", order, kind, free, of, frame)
		}
	}
	return f, err
}

// P5.2 to P5.7 in a long row of calls of all sorts.
func TestLongRow(t *testing.T) {
	for n, frames := range []int{8, 13, 31, 64, 200, 256, 300, 777, 1023, 1024} {
		x, c := newPair(t, frames), chance(n)
		for range 2500 {
			order := c.below(6)
			frame := c.below(frames+20) - 10
			if c.below(4) > 0 {
				frame &^= 1<<order - 1
			}
			switch c.below(8) {
			case 0, 1, 2:
				x.taken(order, c.below(3))
			case 3:
				x.takeAt(frame, order)
			case 4:
				x.set(c.below(frames/8+3)-1, c.below(6)-1)
			default:
				x.give(frame, order)
			}
			if c.below(16) == 0 {
				x.same()
			}
		}
		x.same()
	}
}

// P5.2 and P5.6: single frames are taken till there is none; by then all that is free is isolated.
func TestTakeAll(t *testing.T) {
	for n, frames := range []int{8, 9, 60, 256, 500, 1024} {
		for _, kind := range askedKinds {
			x, c := newPair(t, frames), chance(n)
			for section := range (frames + 7) / 8 {
				x.set(section, c.below(4))
			}
			isolated := x.k.FreeOf(api.Isolate)
			count := 0
			for {
				if _, err := x.take(0, kind); err != api.OK {
					break
				}
				count++
			}
			if count != frames-isolated || x.k.Free() != isolated || x.k.FreeOf(api.Isolate) != isolated {
				t.Errorf("%d frames, %d isolated: %d were taken, %d are free", frames, isolated, count, x.k.Free())
			}
			x.same()
		}
	}
}

// P5.3 with numbers of all sorts: buddy's answers, whatever the kinds, that stay as they are.
func TestTurnSorts(t *testing.T) {
	for _, frames := range []int{8, 255, 1000, 1024} {
		x := newPair(t, frames)
		for section := range (frames + 7) / 8 {
			x.set(section, section%4)
		}
		for _, order := range []int{math.MinInt, -64, -1, 0, 1, 3, 4, 8, 9, 62, 63, 64, 1 << 32, math.MaxInt} {
			for _, frame := range sorts {
				for range 2 {
					x.takeAt(frame, order)
					x.give(frame, order)
					x.give(frame, order)
				}
			}
		}
		x.same()
	}
}

// P5.3, written out: the errors, and that what is isolated may be taken at its place, and given back.
func TestTurnWritten(t *testing.T) {
	x := made(t, 21, []int{mo, is, re}, at(4, 2))
	for _, y := range []struct {
		frame, order int
		taken, given api.Errno
	}{
		{8, 3, api.OK, api.OK},
		{9, 0, api.OK, api.OK},
		{20, 0, api.OK, api.OK},
		{0, 3, api.ErrBusy, api.ErrBusy},
		{20, 1, api.ErrRange, api.ErrRange},
		{-8, 3, api.ErrRange, api.ErrRange},
		{21, 0, api.ErrRange, api.ErrRange},
		{9, 1, api.ErrArg, api.ErrArg},
		{-1, 1, api.ErrArg, api.ErrArg},
		{0, 9, api.ErrArg, api.ErrArg},
		{0, -1, api.ErrArg, api.ErrArg},
	} {
		if err := x.takeAt(y.frame, y.order); err != y.taken {
			t.Errorf("TakeAt(%d, %d): %d, want %d", y.frame, y.order, err, y.taken)
		}
		x.same()
		if err := x.give(y.frame, y.order); err != y.given {
			t.Errorf("Give(%d, %d): %d, want %d", y.frame, y.order, err, y.given)
		}
		x.same()
	}
}

// P5.3: what comes back from other kinds is one block again, the sections keep their kinds.
func TestGivenBack(t *testing.T) {
	x := newPair(t, 64)
	first := x.k.Blocks()
	var taken []int
	for n := range 64 {
		f, err := x.take(0, n%3)
		if err != api.OK {
			t.Fatalf("Take(0, %d): %d", n%3, err)
		}
		taken = append(taken, f)
	}
	of := slices.Clone(x.m.kind)
	for _, f := range taken {
		x.give(f, 0)
	}
	x.same()
	if !slices.Equal(x.k.Blocks(), first) || !slices.Equal(x.m.kind, of) {
		t.Errorf("%v, %v; want %v, %v", x.k.Blocks(), x.m.kind, first, of)
	}
}

// P5.4: Set of each section, to each kind, moves the free frames from one kind to another.
func TestSet(t *testing.T) {
	for _, frames := range []int{8, 9, 15, 16, 17, 100, 1024} {
		x := newPair(t, frames)
		for section := range (frames + 7) / 8 {
			for _, kind := range allKinds {
				if err := x.set(section, kind); err != api.OK {
					t.Errorf("%d frames: Set(%d, %d): %d", frames, section, kind, err)
				}
				n := min(8, frames-section*8)
				if got := x.k.Kind(section*8 + n - 1); got != kind {
					t.Errorf("%d frames: Kind(%d): %d, want %d", frames, section*8+n-1, got, kind)
				}
				if kind != api.Movable && x.k.FreeOf(kind) != n {
					t.Errorf("%d frames: FreeOf(%d): %d, want %d", frames, kind, x.k.FreeOf(kind), n)
				}
			}
			x.ofKinds()
			x.set(section, api.Movable)
		}
		x.same()
	}
}

// P5.4 with numbers of all sorts: ErrRange comes ahead of ErrArg, and nothing changes.
func TestSetErrors(t *testing.T) {
	for _, x := range []struct{ frames, sections int }{{8, 1}, {9, 2}, {16, 2}, {1000, 125}, {1017, 128}, {1024, 128}} {
		p := newPair(t, x.frames)
		for _, section := range append([]int{x.sections - 1, x.sections}, sorts...) {
			for _, kind := range sorts {
				want := api.OK
				switch {
				case section < 0 || section >= x.sections:
					want = api.ErrRange
				case kind < 0 || kind > 3:
					want = api.ErrArg
				}
				if err := p.set(section, kind); err != want {
					t.Errorf("%d frames: Set(%d, %d): %d, want %d", x.frames, section, kind, err, want)
				}
			}
		}
		p.same()
	}
}

// P5.4 and P5.5 with numbers of all sorts.
func TestLooksSorts(t *testing.T) {
	for _, frames := range []int{8, 9, 256, 1000, 1024} {
		x := newPair(t, frames)
		x.set(0, api.Unmovable)
		for _, n := range sorts {
			kind, free := -1, 0
			if n >= 0 && n < frames {
				kind = api.Movable
				if n < 8 {
					kind = api.Unmovable
				}
			}
			switch n {
			case api.Unmovable:
				free = 8
			case api.Movable:
				free = frames - 8
			}
			if got := x.k.Kind(n); got != kind {
				t.Errorf("%d frames: Kind(%d): %d, want %d", frames, n, got, kind)
			}
			if got := x.k.Has(n); got != (kind >= 0) {
				t.Errorf("%d frames: Has(%d): %v", frames, n, got)
			}
			if got := x.k.FreeOf(n); got != free {
				t.Errorf("%d frames: FreeOf(%d): %d, want %d", frames, n, got, free)
			}
		}
	}
}

// P5.5: FreeOf, written out, of blocks that are greater and less than a section, and of sections in them of other kinds.
func TestFreeOf(t *testing.T) {
	x := made(t, 45, []int{un, re, re, is, mo, is}, at(2, 0), at(34, 1), at(44, 0))
	for kind, want := range []int{7, 6, 16, 12} {
		if got := x.k.FreeOf(kind); got != want {
			t.Errorf("FreeOf(%d): %d, want %d", kind, got, want)
		}
	}
	if got := x.k.Free(); got != 41 {
		t.Errorf("Free: %d, want 41", got)
	}
	// Blocks tells them as they are, not as pieces.
	want := []api.Block{at(0, 1), at(3, 0), at(4, 2), at(8, 3), at(16, 4), at(32, 1), at(36, 2), at(40, 2)}
	if got := x.k.Blocks(); !slices.Equal(got, want) {
		t.Errorf("Blocks: %v, want %v", got, want)
	}
}

// P5.2 to P5.5 of a nil one: ErrNil comes first.
func TestNil(t *testing.T) {
	var k *kinds.Kinds
	for _, a := range sorts {
		for _, b := range sorts {
			if f, err := k.Take(a, b); f != 0 || err != api.ErrNil {
				t.Errorf("Take(%d, %d) of nil: %d, %d", a, b, f, err)
			}
			if err := k.TakeAt(a, b); err != api.ErrNil {
				t.Errorf("TakeAt(%d, %d) of nil: %d", a, b, err)
			}
			if err := k.Give(a, b); err != api.ErrNil {
				t.Errorf("Give(%d, %d) of nil: %d", a, b, err)
			}
			if err := k.Set(a, b); err != api.ErrNil {
				t.Errorf("Set(%d, %d) of nil: %d", a, b, err)
			}
		}
		if k.Kind(a) != -1 || k.FreeOf(a) != 0 || k.Has(a) {
			t.Errorf("%d of nil: %d, %d, %v", a, k.Kind(a), k.FreeOf(a), k.Has(a))
		}
	}
	if k.Free() != 0 || len(k.Blocks()) != 0 {
		t.Errorf("nil: %d, %v", k.Free(), k.Blocks())
	}
}

// R3: what Blocks tells is new memory.
func TestBlocksApart(t *testing.T) {
	x := newPair(t, 100)
	x.take(0, api.Reclaim)
	one := x.k.Blocks()
	for n := range one[:cap(one)] {
		one[:cap(one)][n] = at(99, 7)
	}
	x.same()
	two := x.k.Blocks()
	was := slices.Clone(two)
	x.take(3, api.Unmovable)
	if !slices.Equal(two, was) {
		t.Errorf("Blocks has told %v, which is %v now", was, two)
	}
}

// R4: two that were made alike do not know of one another.
func TestApart(t *testing.T) {
	x, y := newPair(t, 64), newPair(t, 64)
	x.take(3, api.Unmovable)
	x.set(5, api.Isolate)
	y.same()
	y.take(5, api.Reclaim)
	x.same()
	y.same()
}
