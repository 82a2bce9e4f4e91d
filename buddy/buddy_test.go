package buddy_test

import (
	"math"
	"slices"
	"testing"

	"pantile/api"
	"pantile/buddy"
)

// Numbers of all sorts: around 0, the ends of what there is, and of what a number can be.
var sorts = []int{
	math.MinInt, math.MinInt + 1, math.MinInt + 256, math.MinInt / 2, -1 << 32, -1024, -256, -9, -8, -3, -2, -1,
	0, 1, 2, 3, 7, 8, 9, 16, 255, 256, 512, 768, 1000, 1023, 1024, 1025, 1280, 2048,
	1 << 32, math.MaxInt / 2, math.MaxInt - 255, math.MaxInt - 1, math.MaxInt,
}

// The orders, and such as are none.
var (
	goodOrders = []int{0, 1, 2, 3, 4, 5, 6, 7, 8}
	badOrders  = []int{math.MinInt, math.MinInt + 3, -64, -8, -3, -1, 9, 10, 62, 63, 64, 65, 1 << 32, math.MaxInt - 3, math.MaxInt}
	allOrders  = slices.Concat(goodOrders, badOrders)
)

// size tells how many frames a block has, by doubling.
func size(order int) int {
	n := 1
	for range order {
		n *= 2
	}
	return n
}

// plain says of each frame whether it is free, and knows nothing of blocks.
type plain []bool

func newPlain(frames int) plain {
	return slices.Repeat(plain{true}, frames)
}

// all tells whether all frames of a block, which has its place, are free, or all are not.
func (p plain) all(frame, order int, free bool) bool {
	return !slices.Contains(p[frame:frame+size(order)], !free)
}

func (p plain) set(frame, order int, free bool) {
	for i := range size(order) {
		p[frame+i] = free
	}
}

func (p plain) free() int {
	n := 0
	for _, free := range p {
		if free {
			n++
		}
	}
	return n
}

// blocks tells the free blocks by the chapter's words: from each free frame on, the greatest even one that is free as a whole.
func (p plain) blocks() []api.Block {
	var l []api.Block
	for at := 0; at < len(p); {
		if !p[at] {
			at++
			continue
		}
		best := 0
		for _, order := range goodOrders {
			if at%size(order) == 0 && at+size(order) <= len(p) && p.all(at, order, true) {
				best = order
			}
		}
		l = append(l, api.Block{Frame: at, Order: best})
		at += size(best)
	}
	return l
}

// take says P4.2.
func (p plain) take(order int) (int, api.Errno) {
	if order < 0 || order > 8 {
		return 0, api.ErrArg
	}
	best := api.Block{Order: 9}
	for _, x := range p.blocks() {
		if x.Order >= order && x.Order < best.Order {
			best = x
		}
	}
	if best.Order == 9 {
		return 0, api.ErrMem
	}
	p.set(best.Frame, order, false)
	return best.Frame, api.OK
}

// turn says P4.3: a block is given if free says so, else taken.
func (p plain) turn(frame, order int, free bool) api.Errno {
	switch {
	case order < 0 || order > 8 || frame%size(order) != 0:
		return api.ErrArg
	case frame < 0 || frame >= len(p) || frame+size(order) > len(p):
		return api.ErrRange
	case !p.all(frame, order, !free):
		return api.ErrBusy
	}
	p.set(frame, order, free)
	return api.OK
}

// pair is a buddy and what it should be.
type pair struct {
	t *testing.T
	b *buddy.Buddy
	p plain
}

func newPair(t *testing.T, frames int) pair {
	t.Helper()
	b, err := buddy.New(frames)
	if b == nil || err != api.OK {
		t.Fatalf("New(%d): %v, %d", frames, b, err)
	}
	return pair{t, b, newPlain(frames)}
}

// some makes a pair in which just those frames are free whose bit is set.
func some(t *testing.T, frames, bits int) pair {
	t.Helper()
	x := newPair(t, frames)
	for frame := range frames {
		if bits>>frame&1 == 0 {
			x.takeAt(frame, 0)
		}
	}
	return x
}

func (x pair) take(order int) (int, api.Errno) {
	x.t.Helper()
	was := x.p.blocks()
	want, wantErr := x.p.take(order)
	got, err := x.b.Take(order)
	if got != want || err != wantErr {
		x.t.Fatalf("Take(%d) of %v: %d, %d; want %d, %d", order, was, got, err, want, wantErr)
	}
	return got, err
}

func (x pair) takeAt(frame, order int) api.Errno {
	x.t.Helper()
	return x.turn("TakeAt", frame, order, false, x.b.TakeAt)
}

func (x pair) give(frame, order int) api.Errno {
	x.t.Helper()
	return x.turn("Give", frame, order, true, x.b.Give)
}

func (x pair) turn(name string, frame, order int, free bool, call func(frame, order int) api.Errno) api.Errno {
	x.t.Helper()
	was := x.p.blocks()
	want := x.p.turn(frame, order, free)
	err := call(frame, order)
	if err != want {
		x.t.Fatalf("%s(%d, %d) of %v: %d, want %d", name, frame, order, was, err, want)
	}
	return err
}

// same: all that can be looked at is as it should be.
func (x pair) same() {
	x.t.Helper()
	want := x.p.blocks()
	if got := x.b.Blocks(); !slices.Equal(got, want) {
		x.t.Fatalf("Blocks: %v, want %v", got, want)
	}
	if got := x.b.Free(); got != x.p.free() {
		x.t.Fatalf("Free of %v: %d, want %d", want, got, x.p.free())
	}
	greatest := -1
	for _, b := range want {
		greatest = max(greatest, b.Order)
	}
	if got := x.b.Greatest(); got != greatest {
		x.t.Fatalf("Greatest of %v: %d, want %d", want, got, greatest)
	}
	for frame := -1; frame <= len(x.p); frame++ {
		free := frame >= 0 && frame < len(x.p) && x.p[frame]
		if got := x.b.Has(frame); got != free {
			x.t.Fatalf("Has(%d) of %v: %v", frame, want, got)
		}
	}
}

// chance makes numbers in a row that always is the same.
type chance uint64

func (c *chance) below(n int) int {
	*c = *c*6364136223846793005 + 1442695040888963407
	return int(uint64(*c) >> 33 % uint64(n))
}

// The chapter's example, and the document's third.
func TestExamples(t *testing.T) {
	x := newPair(t, 16)
	whole := []api.Block{{Frame: 0, Order: 4}}
	if l := x.b.Blocks(); !slices.Equal(l, whole) {
		t.Errorf("Blocks: %v", l)
	}
	if f, err := x.b.Take(0); f != 0 || err != api.OK {
		t.Errorf("Take(0): %d, %d", f, err)
	}
	want := []api.Block{{Frame: 1, Order: 0}, {Frame: 2, Order: 1}, {Frame: 4, Order: 2}, {Frame: 8, Order: 3}}
	if l := x.b.Blocks(); !slices.Equal(l, want) {
		t.Errorf("Blocks: %v, want %v", l, want)
	}
	if err := x.b.Give(0, 0); err != api.OK {
		t.Errorf("Give(0, 0): %d", err)
	}
	if l := x.b.Blocks(); !slices.Equal(l, whole) {
		t.Errorf("Blocks: %v", l)
	}
}

// P4.1: all frames are free, however many.
func TestNew(t *testing.T) {
	for frames := 8; frames <= 1024; frames++ {
		newPair(t, frames).same()
	}
}

// P4.1, written out: no block of an order above 8, and what is over in lesser ones.
func TestNewWritten(t *testing.T) {
	for _, x := range []struct {
		frames int
		want   []api.Block
	}{
		{8, []api.Block{{Frame: 0, Order: 3}}},
		{9, []api.Block{{Frame: 0, Order: 3}, {Frame: 8, Order: 0}}},
		{15, []api.Block{{Frame: 0, Order: 3}, {Frame: 8, Order: 2}, {Frame: 12, Order: 1}, {Frame: 14, Order: 0}}},
		{256, []api.Block{{Frame: 0, Order: 8}}},
		{512, []api.Block{{Frame: 0, Order: 8}, {Frame: 256, Order: 8}}},
		{1000, []api.Block{{Frame: 0, Order: 8}, {Frame: 256, Order: 8}, {Frame: 512, Order: 8}, {Frame: 768, Order: 7}, {Frame: 896, Order: 6}, {Frame: 960, Order: 5}, {Frame: 992, Order: 3}}},
		{1024, []api.Block{{Frame: 0, Order: 8}, {Frame: 256, Order: 8}, {Frame: 512, Order: 8}, {Frame: 768, Order: 8}}},
	} {
		b, err := buddy.New(x.frames)
		if l := b.Blocks(); !slices.Equal(l, x.want) || err != api.OK || b.Free() != x.frames {
			t.Errorf("New(%d): %v, %d; want %v", x.frames, l, err, x.want)
		}
	}
}

// P4.1: so many frames as may not be.
func TestNewErrors(t *testing.T) {
	for _, frames := range []int{math.MinInt, -1024, -8, -1, 0, 1, 7, 1025, 2048, 1 << 32, math.MaxInt} {
		if b, err := buddy.New(frames); b != nil || err != api.ErrArg {
			t.Errorf("New(%d): %v, %d; want nil, ErrArg", frames, b, err)
		}
	}
}

// P4.2: the least order that will do goes ahead of the least frame, and of that order the least frame.
func TestTakeWritten(t *testing.T) {
	for _, x := range []struct {
		gone  []api.Block
		order int
		frame int
		want  []api.Block
	}{
		{nil, 0, 16, []api.Block{{Frame: 0, Order: 4}, {Frame: 17, Order: 0}, {Frame: 18, Order: 1}, {Frame: 20, Order: 2}}},
		{nil, 3, 16, []api.Block{{Frame: 0, Order: 4}}},
		{nil, 4, 0, []api.Block{{Frame: 16, Order: 3}}},
		{[]api.Block{{Frame: 16, Order: 3}}, 3, 0, []api.Block{{Frame: 8, Order: 3}}},
		{[]api.Block{{Frame: 6, Order: 0}}, 0, 7, []api.Block{{Frame: 0, Order: 2}, {Frame: 4, Order: 1}, {Frame: 8, Order: 3}, {Frame: 16, Order: 3}}},
		{[]api.Block{{Frame: 6, Order: 0}}, 1, 4, []api.Block{{Frame: 0, Order: 2}, {Frame: 7, Order: 0}, {Frame: 8, Order: 3}, {Frame: 16, Order: 3}}},
		{[]api.Block{{Frame: 6, Order: 0}}, 3, 8, []api.Block{{Frame: 0, Order: 2}, {Frame: 4, Order: 1}, {Frame: 7, Order: 0}, {Frame: 16, Order: 3}}},
		{[]api.Block{{Frame: 2, Order: 0}, {Frame: 20, Order: 0}, {Frame: 9, Order: 0}}, 0, 3, []api.Block{{Frame: 0, Order: 1}, {Frame: 4, Order: 2}, {Frame: 8, Order: 0}, {Frame: 10, Order: 1}, {Frame: 12, Order: 2}, {Frame: 16, Order: 2}, {Frame: 21, Order: 0}, {Frame: 22, Order: 1}}},
	} {
		b, _ := buddy.New(24)
		for _, g := range x.gone {
			if err := b.TakeAt(g.Frame, g.Order); err != api.OK {
				t.Fatalf("TakeAt(%v): %d", g, err)
			}
		}
		if f, err := b.Take(x.order); f != x.frame || err != api.OK {
			t.Errorf("without %v: Take(%d): %d, %d; want %d", x.gone, x.order, f, err, x.frame)
		}
		if l := b.Blocks(); !slices.Equal(l, x.want) {
			t.Errorf("without %v, and Take(%d): %v, want %v", x.gone, x.order, l, x.want)
		}
	}
}

// P4.2, P4.6 and P4.7: one order is taken till there is none; by then no even block of it is free.
func TestTakeAll(t *testing.T) {
	for _, frames := range []int{8, 11, 16, 63, 255, 256, 257, 500, 1023, 1024} {
		for _, order := range goodOrders {
			x := newPair(t, frames)
			var taken []int
			for {
				f, err := x.take(order)
				if err != api.OK {
					break
				}
				taken = append(taken, f)
			}
			x.same()
			if len(taken) != frames/size(order) {
				t.Errorf("%d frames: %d blocks of the order %d were taken", frames, len(taken), order)
			}
			slices.Sort(taken)
			for i, f := range taken {
				if f != i*size(order) {
					t.Errorf("%d frames, order %d: the %d-th block is %d", frames, order, i, f)
				}
			}
		}
	}
}

// P4.2 of orders that are none: nothing is taken, be there memory or not.
func TestTakeErrors(t *testing.T) {
	full, empty := newPair(t, 1000), some(t, 9, 0)
	for _, order := range badOrders {
		for _, x := range []pair{full, empty} {
			if f, err := x.b.Take(order); f != 0 || err != api.ErrArg {
				t.Errorf("Take(%d): %d, %d; want 0, ErrArg", order, f, err)
			}
			x.same()
		}
	}
	for _, order := range goodOrders {
		if f, err := empty.b.Take(order); f != 0 || err != api.ErrMem {
			t.Errorf("Take(%d) of nothing: %d, %d; want 0, ErrMem", order, f, err)
		}
		empty.same()
	}
}

// P4.2 to P4.4 and P4.6 of every set of free frames of 8 and of 11: each Take.
func TestTakeEverySet(t *testing.T) {
	for _, frames := range []int{8, 11} {
		for bits := range 1 << frames {
			for order := -1; order <= 5; order++ {
				x := some(t, frames, bits)
				x.take(order)
				x.same()
			}
		}
	}
}

// P4.3 and P4.4 of every set of free frames of 8 and of 11: each block, at the ends those that are none, too.
func TestTurnEverySet(t *testing.T) {
	for _, frames := range []int{8, 11} {
		for bits := range 1 << frames {
			x := some(t, frames, bits)
			for order := -1; order <= 4; order++ {
				for frame := -8; frame <= frames+8; frame++ {
					if x.takeAt(frame, order) == api.OK {
						x.same()
						if x.give(frame, order) != api.OK {
							t.Fatalf("Give(%d, %d) of what was taken", frame, order)
						}
					} else if x.give(frame, order) == api.OK {
						x.same()
						if x.takeAt(frame, order) != api.OK {
							t.Fatalf("TakeAt(%d, %d) of what was given", frame, order)
						}
					}
				}
			}
			x.same()
		}
	}
}

// P4.3 with numbers of all sorts, of memories that are free, taken and in pieces; nothing changes beside an error.
func TestTurnSorts(t *testing.T) {
	for _, frames := range []int{8, 255, 256, 1000, 1024} {
		for _, pieces := range []int{0, 1, 3, 256} {
			x := newPair(t, frames)
			for frame := 0; pieces > 0 && frame < frames; frame += pieces {
				x.takeAt(frame, 0)
			}
			for _, order := range allOrders {
				for _, frame := range sorts {
					for range 2 {
						x.takeAt(frame, order)
						x.give(frame, order)
						x.give(frame, order)
					}
				}
			}
			x.same()
		}
	}
}

// P4.3, written out: the error that comes first. Of 21 frames, 4 to 7 are not free.
func TestTurnWritten(t *testing.T) {
	for _, x := range []struct {
		frame, order int
		taken, given api.Errno
	}{
		{0, 0, api.OK, api.ErrBusy},
		{0, 2, api.OK, api.ErrBusy},
		{2, 1, api.OK, api.ErrBusy},
		{8, 3, api.OK, api.ErrBusy},
		{16, 2, api.OK, api.ErrBusy},
		{20, 0, api.OK, api.ErrBusy},
		{4, 2, api.ErrBusy, api.OK},
		{4, 0, api.ErrBusy, api.OK},
		{6, 1, api.ErrBusy, api.OK},
		{7, 0, api.ErrBusy, api.OK},
		{0, 3, api.ErrBusy, api.ErrBusy},
		{0, 4, api.ErrBusy, api.ErrBusy},
		{20, 1, api.ErrRange, api.ErrRange},
		{20, 2, api.ErrRange, api.ErrRange},
		{16, 3, api.ErrRange, api.ErrRange},
		{0, 5, api.ErrRange, api.ErrRange},
		{0, 8, api.ErrRange, api.ErrRange},
		{21, 0, api.ErrRange, api.ErrRange},
		{22, 1, api.ErrRange, api.ErrRange},
		{256, 8, api.ErrRange, api.ErrRange},
		{-1, 0, api.ErrRange, api.ErrRange},
		{-4, 2, api.ErrRange, api.ErrRange},
		{-256, 8, api.ErrRange, api.ErrRange},
		{math.MinInt, 8, api.ErrRange, api.ErrRange},
		{math.MaxInt, 0, api.ErrRange, api.ErrRange},
		{math.MaxInt - 255, 8, api.ErrRange, api.ErrRange},
		{1, 1, api.ErrArg, api.ErrArg},
		{5, 2, api.ErrArg, api.ErrArg},
		{4, 3, api.ErrArg, api.ErrArg},
		{21, 1, api.ErrArg, api.ErrArg},
		{-1, 1, api.ErrArg, api.ErrArg},
		{math.MaxInt, 1, api.ErrArg, api.ErrArg},
		{math.MinInt + 1, 8, api.ErrArg, api.ErrArg},
		{0, 9, api.ErrArg, api.ErrArg},
		{512, 9, api.ErrArg, api.ErrArg},
		{-1, 9, api.ErrArg, api.ErrArg},
		{4, -1, api.ErrArg, api.ErrArg},
		{30, -1, api.ErrArg, api.ErrArg},
		{0, 64, api.ErrArg, api.ErrArg},
		{0, math.MaxInt, api.ErrArg, api.ErrArg},
		{math.MinInt, math.MinInt, api.ErrArg, api.ErrArg},
	} {
		made := func() *buddy.Buddy {
			b, _ := buddy.New(21)
			b.TakeAt(4, 2)
			return b
		}
		was := []api.Block{{Frame: 0, Order: 2}, {Frame: 8, Order: 3}, {Frame: 16, Order: 2}, {Frame: 20, Order: 0}}
		b := made()
		if err := b.TakeAt(x.frame, x.order); err != x.taken {
			t.Errorf("TakeAt(%d, %d): %d, want %d", x.frame, x.order, err, x.taken)
		}
		if l := b.Blocks(); x.taken != api.OK && !slices.Equal(l, was) {
			t.Errorf("TakeAt(%d, %d) has left %v", x.frame, x.order, l)
		}
		b = made()
		if err := b.Give(x.frame, x.order); err != x.given {
			t.Errorf("Give(%d, %d): %d, want %d", x.frame, x.order, err, x.given)
		}
		if l := b.Blocks(); x.given != api.OK && !slices.Equal(l, was) {
			t.Errorf("Give(%d, %d) has left %v", x.frame, x.order, l)
		}
	}
}

// P4.2 to P4.7 in a long row of calls of all sorts.
func TestLongRow(t *testing.T) {
	for i, frames := range []int{8, 13, 31, 64, 200, 256, 300, 777, 1023, 1024} {
		x, c := newPair(t, frames), chance(i)
		for range 3000 {
			order := c.below(10)
			frame := c.below(frames+20) - 10
			if c.below(4) > 0 {
				frame &^= size(order) - 1
			}
			switch c.below(4) {
			case 0:
				x.take(order)
			case 1:
				x.takeAt(frame, order)
			default:
				x.give(frame, order)
			}
			if c.below(8) == 0 {
				x.same()
			}
		}
		x.same()
	}
}

// taken tells the blocks that a row of takes has brought, having looked at P4.7.
func taken(t *testing.T, x pair, c *chance) []api.Block {
	t.Helper()
	var l []api.Block
	seen := map[int]bool{}
	for range 400 {
		order := c.below(5)
		f, err := x.take(order)
		if err != api.OK {
			continue
		}
		if f%size(order) != 0 {
			t.Fatalf("Take(%d): %d is not even", order, f)
		}
		for i := range size(order) {
			if seen[f+i] || f+i >= len(x.p) {
				t.Fatalf("Take(%d): %d is there twice, or none", order, f+i)
			}
			seen[f+i] = true
		}
		l = append(l, api.Block{Frame: f, Order: order})
	}
	return l
}

// parts cuts a block into even parts by chance.
func parts(b api.Block, c *chance) []api.Block {
	if b.Order == 0 || c.below(3) == 0 {
		return []api.Block{b}
	}
	b.Order--
	return append(parts(b, c), parts(api.Block{Frame: b.Frame + size(b.Order), Order: b.Order}, c)...)
}

// P4.5: all is as at first, in whatever order and parts it has come back.
func TestWhole(t *testing.T) {
	for i, frames := range []int{8, 10, 63, 64, 255, 256, 511, 600, 1023, 1024} {
		for seed := range 6 {
			c := chance(i*100 + seed)
			x := newPair(t, frames)
			first := x.b.Blocks()
			var back []api.Block
			for _, b := range taken(t, x, &c) {
				back = append(back, parts(b, &c)...)
			}
			for n := len(back); n > 0; n-- {
				j := c.below(n)
				back[j], back[n-1] = back[n-1], back[j]
				if x.give(back[n-1].Frame, back[n-1].Order) != api.OK {
					t.Fatalf("Give(%v)", back[n-1])
				}
			}
			x.same()
			if l := x.b.Blocks(); !slices.Equal(l, first) || x.b.Free() != frames {
				t.Errorf("%d frames: %v, at first %v", frames, l, first)
			}
		}
	}
}

// P4.5: parts come back as one greater block, too, of single frames and of taken blocks.
func TestWholeAsOne(t *testing.T) {
	x := newPair(t, 512)
	for range 512 {
		x.take(0)
	}
	for _, b := range []api.Block{{Frame: 256, Order: 8}, {Frame: 0, Order: 7}, {Frame: 192, Order: 6}, {Frame: 128, Order: 6}} {
		if x.give(b.Frame, b.Order) != api.OK {
			t.Errorf("Give(%v)", b)
		}
		x.same()
	}
	want := []api.Block{{Frame: 0, Order: 8}, {Frame: 256, Order: 8}}
	if l := x.b.Blocks(); !slices.Equal(l, want) {
		t.Errorf("%v, want %v", l, want)
	}
}

// P4.4: Has of what is no frame.
func TestHasSorts(t *testing.T) {
	for _, frames := range []int{8, 256, 1000, 1024} {
		b := newPair(t, frames).b
		for _, frame := range sorts {
			if got := b.Has(frame); got != (frame >= 0 && frame < frames) {
				t.Errorf("%d frames: Has(%d): %v", frames, frame, got)
			}
		}
	}
}

// P4.2 to P4.4 of a nil one: ErrNil comes first.
func TestNil(t *testing.T) {
	var b *buddy.Buddy
	for _, order := range allOrders {
		if f, err := b.Take(order); f != 0 || err != api.ErrNil {
			t.Errorf("Take(%d) of nil: %d, %d", order, f, err)
		}
		for _, frame := range sorts {
			if err := b.TakeAt(frame, order); err != api.ErrNil {
				t.Errorf("TakeAt(%d, %d) of nil: %d", frame, order, err)
			}
			if err := b.Give(frame, order); err != api.ErrNil {
				t.Errorf("Give(%d, %d) of nil: %d", frame, order, err)
			}
			if b.Has(frame) {
				t.Errorf("Has(%d) of nil", frame)
			}
		}
	}
	if b.Free() != 0 || b.Greatest() != -1 || len(b.Blocks()) != 0 {
		t.Errorf("nil: %d, %d, %v", b.Free(), b.Greatest(), b.Blocks())
	}
}

// R3: what Blocks tells is new memory.
func TestBlocksApart(t *testing.T) {
	x := newPair(t, 100)
	x.take(0)
	one := x.b.Blocks()
	for i := range one[:cap(one)] {
		one[:cap(one)][i] = api.Block{Frame: 99, Order: 7}
	}
	x.same()
	two := x.b.Blocks()
	was := slices.Clone(two)
	x.take(3)
	x.give(0, 0)
	if !slices.Equal(two, was) {
		t.Errorf("Blocks has told %v, which is %v now", was, two)
	}
}

// R4: two that were made alike do not know of one another.
func TestApart(t *testing.T) {
	x, y := newPair(t, 64), newPair(t, 64)
	x.take(3)
	x.takeAt(40, 2)
	y.same()
	y.take(5)
	x.same()
	y.same()
}
