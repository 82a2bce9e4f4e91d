package rmap_test

import (
	"math"
	"slices"
	"testing"

	"pantile/api"
	"pantile/rmap"
)

// Numbers of all sorts: around 0, the ends of frames and of pages, and of what a number can be.
var sorts = []int{
	math.MinInt, math.MinInt + 1, math.MinInt + 1024, math.MinInt / 2, -1 << 32, -4096, -1024, -1023, -8, -2, -1,
	0, 1, 2, 7, 8, 15, 16, 63, 64, 255, 256, 1022, 1023, 1024, 1025, 2047, 2048, 4094, 4095, 4096, 4097,
	1 << 16, 1 << 20, 1 << 32, 1<<32 + 5, 1 << 42, math.MaxInt / 2, math.MaxInt - 4095, math.MaxInt - 1023, math.MaxInt - 1, math.MaxInt,
}

// at is a spot, told short.
func at(space, page int) api.Spot { return api.Spot{Space: space, Page: page} }

// stand says that a spot stands on a frame.
type stand struct {
	frame int
	spot  api.Spot
}

// model says the chapter's words of a set of stands, in which none comes ahead of another.
type model map[stand]struct{}

// count tells how many stand on a frame, by going through all.
func (m model) count(frame int) int {
	n := 0
	for s := range m {
		if s.frame == frame {
			n++
		}
	}
	return n
}

// add says P10.1.
func (m model) add(frame int, s api.Spot) api.Errno {
	if frame < 0 || frame > 1023 || s.Space < 0 || s.Page < 0 || s.Page > 4095 {
		return api.ErrRange
	}
	if _, there := m[stand{frame, s}]; there {
		return api.ErrExist
	}
	m[stand{frame, s}] = struct{}{}
	return api.OK
}

// del says P10.1.
func (m model) del(frame int, s api.Spot) api.Errno {
	if _, there := m[stand{frame, s}]; !there {
		return api.ErrNone
	}
	delete(m, stand{frame, s})
	return api.OK
}

// move says P10.3.
func (m model) move(from, to int) api.Errno {
	if to < 0 || to > 1023 {
		return api.ErrRange
	}
	if m.count(from) == 0 {
		return api.ErrNone
	}
	if m.count(to) > 0 {
		return api.ErrExist
	}
	var all []stand
	for s := range m {
		if s.frame == from {
			all = append(all, s)
		}
	}
	for _, s := range all {
		delete(m, s)
		m[stand{to, s.spot}] = struct{}{}
	}
	return api.OK
}

// pair is a way back, and what it should be; added is how many Adds answered OK, less how many Dels did.
type pair struct {
	t     *testing.T
	r     *rmap.Rmap
	m     model
	added *int
}

func newPair(t *testing.T, l ...stand) pair {
	t.Helper()
	r := rmap.New()
	if r == nil {
		t.Fatal("New: nil")
	}
	x := pair{t, r, model{}, new(int)}
	for _, s := range l {
		x.add(s.frame, s.spot)
	}
	return x
}

func (x pair) add(frame int, s api.Spot) api.Errno {
	x.t.Helper()
	err, want := x.r.Add(frame, s), x.m.add(frame, s)
	if err != want {
		x.t.Fatalf("Add(%d, %v): %d, want %d", frame, s, err, want)
	}
	if err == api.OK {
		*x.added++
	}
	x.frame(frame)
	return err
}

func (x pair) del(frame int, s api.Spot) api.Errno {
	x.t.Helper()
	err, want := x.r.Del(frame, s), x.m.del(frame, s)
	if err != want {
		x.t.Fatalf("Del(%d, %v): %d, want %d", frame, s, err, want)
	}
	if err == api.OK {
		*x.added--
	}
	x.frame(frame)
	return err
}

func (x pair) move(from, to int) api.Errno {
	x.t.Helper()
	err, want := x.r.Move(from, to), x.m.move(from, to)
	if err != want {
		x.t.Fatalf("Move(%d, %d): %d, want %d", from, to, err, want)
	}
	x.frame(from)
	x.frame(to)
	return err
}

// rises tells whether spots rise by spaces, then by pages, so that none is there twice.
func rises(l []api.Spot) bool {
	for i := 1; i < len(l); i++ {
		a, b := l[i-1], l[i]
		if a.Space > b.Space || a.Space == b.Space && a.Page >= b.Page {
			return false
		}
	}
	return true
}

// told holds what is told of a frame against how many should stand on it.
func (x pair) told(frame, n int) {
	x.t.Helper()
	l := x.r.Spots(frame)
	if got := x.r.Count(frame); got != n || len(l) != n {
		x.t.Fatalf("frame %d: Count %d, and %d spots; want %d", frame, got, len(l), n)
	}
	if !rises(l) {
		x.t.Fatalf("frame %d: %v does not rise", frame, l)
	}
	for _, s := range l {
		if _, there := x.m[stand{frame, s}]; !there {
			x.t.Fatalf("frame %d: %v, where nobody stands", frame, s)
		}
	}
}

// frame holds all there is of a frame against the model's.
func (x pair) frame(frame int) {
	x.t.Helper()
	x.told(frame, x.m.count(frame))
}

// same asks all there is to ask: all frames and numbers of all sorts, P10.4 among it; asking changes nothing.
func (x pair) same() {
	x.t.Helper()
	n := map[int]int{}
	for s := range x.m {
		n[s.frame]++
	}
	var frames []int
	all := 0
	for frame := -3; frame < 1030; frame++ {
		x.told(frame, n[frame])
		all += x.r.Count(frame)
		if n[frame] > 0 {
			frames = append(frames, frame)
		}
	}
	for _, frame := range sorts {
		x.told(frame, n[frame])
	}
	if all != *x.added {
		x.t.Fatalf("all Counts together are %d; Adds less Dels are %d", all, *x.added)
	}
	for range 2 {
		if got := x.r.Frames(); !slices.Equal(got, frames) {
			x.t.Fatalf("Frames: %v; want %v", got, frames)
		}
	}
}

// shot is all that is told at one time.
func (x pair) shot() map[int][]api.Spot {
	all := map[int][]api.Spot{}
	for _, frame := range x.r.Frames() {
		all[frame] = x.r.Spots(frame)
	}
	return all
}

// sameShot tells whether the same was told at two times.
func sameShot(a, b map[int][]api.Spot) bool {
	for frame := range b {
		if !slices.Equal(a[frame], b[frame]) {
			return false
		}
	}
	return len(a) == len(b)
}

// chance makes numbers in a row that always is the same.
type chance uint64

func (c *chance) below(n int) int {
	*c = *c*6364136223846793005 + 1442695040888963407
	return int(uint64(*c) >> 33 % uint64(n))
}

// mix puts numbers from 0 on in an order of chance.
func (c *chance) mix(n int) []int {
	l := make([]int, n)
	for i := range l {
		j := c.below(i + 1)
		l[i], l[j] = l[j], i
	}
	return l
}

// orders hands on each order of the numbers below n.
func orders(n int, each func([]int)) {
	var longer func(l []int)
	longer = func(l []int) {
		if len(l) == n {
			each(l)
			return
		}
		for i := range n {
			if !slices.Contains(l, i) {
				longer(append(slices.Clone(l), i))
			}
		}
	}
	longer(nil)
}

// The chapter's example, and what it comes to.
func TestExample(t *testing.T) {
	m := rmap.New()
	for space := range 2 {
		if err := m.Add(5, at(space, 1)); err != api.OK {
			t.Errorf("Add(5, space %d page 1): %d", space, err)
		}
	}
	if n := m.Count(5); n != 2 {
		t.Errorf("Count(5): %d, want 2", n)
	}
	if err := m.Move(5, 6); err != api.OK {
		t.Errorf("Move(5, 6): %d", err)
	}
	if l := m.Frames(); !slices.Equal(l, []int{6}) {
		t.Errorf("Frames: %v, want 6", l)
	}
	if l := m.Spots(6); !slices.Equal(l, []api.Spot{at(0, 1), at(1, 1)}) {
		t.Errorf("Spots(6): %v", l)
	}
	if n := m.Count(5); n != 0 {
		t.Errorf("Count(5): %d, want 0", n)
	}
}

// P10.2: a new one has nothing, and gives nothing away.
func TestNew(t *testing.T) {
	x := newPair(t)
	x.same()
	for _, frame := range sorts {
		if err := x.del(frame, at(0, 1)); err != api.ErrNone {
			t.Errorf("Del(%d, ..) of a new one: %d, want ErrNone", frame, err)
		}
		if err := x.move(frame, 5); err != api.ErrNone {
			t.Errorf("Move(%d, 5) of a new one: %d, want ErrNone", frame, err)
		}
	}
	x.same()
}

// P10.1, P10.2, P10.3: a nil one's errors come ahead of all others, and it tells nothing.
func TestNil(t *testing.T) {
	var m *rmap.Rmap
	for _, a := range sorts {
		if l := m.Spots(a); len(l) != 0 {
			t.Errorf("Spots(%d): %v, want none", a, l)
		}
		if n := m.Count(a); n != 0 {
			t.Errorf("Count(%d): %d, want 0", a, n)
		}
		for _, b := range sorts {
			for _, s := range []api.Spot{at(0, b), at(b, 1), at(b, b)} {
				if err := m.Add(a, s); err != api.ErrNil {
					t.Errorf("Add(%d, %v): %d, want ErrNil", a, s, err)
				}
				if err := m.Del(a, s); err != api.ErrNil {
					t.Errorf("Del(%d, %v): %d, want ErrNil", a, s, err)
				}
			}
			if err := m.Move(a, b); err != api.ErrNil {
				t.Errorf("Move(%d, %d): %d, want ErrNil", a, b, err)
			}
		}
	}
	if l := m.Frames(); len(l) != 0 {
		t.Errorf("Frames: %v, want none", l)
	}
}

// P10.1: where a spot may stand; where it may not, nothing is changed.
func TestAddEdges(t *testing.T) {
	for _, x := range []struct {
		frame, space, page int
		want               api.Errno
	}{
		{0, 0, 0, api.OK},
		{0, 0, 4095, api.OK},
		{1023, 0, 1, api.OK},
		{1023, math.MaxInt, 4095, api.OK},
		{1, 16, 1, api.OK},
		{1, 15, 1, api.OK},
		{1, 1 << 32, 1, api.OK},
		{-1, 0, 1, api.ErrRange},
		{1024, 0, 1, api.ErrRange},
		{math.MinInt, 0, 1, api.ErrRange},
		{math.MaxInt, 0, 1, api.ErrRange},
		{1 << 32, 0, 1, api.ErrRange},
		{5, -1, 1, api.ErrRange},
		{5, math.MinInt, 1, api.ErrRange},
		{5, 0, -1, api.ErrRange},
		{5, 0, 4096, api.ErrRange},
		{5, 0, math.MinInt, api.ErrRange},
		{5, 0, math.MaxInt, api.ErrRange},
		{5, 0, 1<<32 + 1, api.ErrRange},
		{-1, -1, -1, api.ErrRange},
		{1024, -1, 4096, api.ErrRange},
		{5, 3, 9, api.ErrExist},
		{5, 3, 10, api.OK},
		{5, 3, 8, api.OK},
		{5, 2, 9, api.OK},
		{5, 4, 9, api.OK},
		{5, 9, 3, api.OK},
		{4, 3, 9, api.OK},
		{6, 3, 9, api.OK},
	} {
		p := newPair(t, stand{5, at(3, 9)}, stand{900, at(0, 9)})
		s := at(x.space, x.page)
		before := p.shot()
		if err := p.add(x.frame, s); err != x.want {
			t.Errorf("Add(%d, %v): %d, want %d", x.frame, s, err, x.want)
		}
		p.same()
		if x.want != api.OK {
			if !sameShot(p.shot(), before) {
				t.Errorf("Add(%d, %v): %v were %v", x.frame, s, p.shot(), before)
			}
			continue
		}
		if l := p.r.Spots(x.frame); !slices.Contains(l, s) {
			t.Errorf("Add(%d, %v), and then Spots: %v", x.frame, s, l)
		}
		if err := p.add(x.frame, s); err != api.ErrExist {
			t.Errorf("Add(%d, %v) again: %d, want ErrExist", x.frame, s, err)
		}
		if err := p.del(x.frame, s); err != api.OK {
			t.Errorf("Del(%d, %v): %d", x.frame, s, err)
		}
		if !sameShot(p.shot(), before) {
			t.Errorf("Add(%d, %v) and Del: %v were %v", x.frame, s, p.shot(), before)
		}
	}
}

// P10.1 with numbers of all sorts in all places: what could be added can be deleted, and nothing else can.
func TestAddSorts(t *testing.T) {
	for _, frame := range sorts {
		x := newPair(t)
		for _, space := range sorts {
			for _, page := range sorts {
				want := api.ErrRange
				if frame >= 0 && frame <= 1023 && space >= 0 && page >= 0 && page <= 4095 {
					want = api.OK
				}
				if err := x.r.Add(frame, at(space, page)); err != want {
					t.Fatalf("Add(%d, space %d page %d): %d, want %d", frame, space, page, err, want)
				}
				if want == api.OK {
					x.m.add(frame, at(space, page))
					*x.added++
				}
			}
		}
		x.same()
		for _, space := range sorts {
			for _, page := range sorts {
				want := api.ErrNone
				if frame >= 0 && frame <= 1023 && space >= 0 && page >= 0 && page <= 4095 {
					want = api.OK
				}
				if err := x.r.Del(frame, at(space, page)); err != want {
					t.Fatalf("Del(%d, space %d page %d): %d, want %d", frame, space, page, err, want)
				}
				if want == api.OK {
					x.m.del(frame, at(space, page))
					*x.added--
				}
			}
		}
		x.same()
		if l := x.r.Frames(); len(l) != 0 {
			t.Errorf("all were deleted, but Frames: %v", l)
		}
	}
}

// P10.1: only what stands on the frame is deleted; else nothing is changed.
func TestDelEdges(t *testing.T) {
	l := []stand{{5, at(3, 9)}, {5, at(3, 11)}, {5, at(4, 0)}, {6, at(3, 10)}, {0, at(0, 0)}, {1023, at(7, 4095)}}
	for _, x := range []struct {
		frame, space, page int
		want               api.Errno
	}{
		{5, 3, 9, api.OK},
		{5, 3, 11, api.OK},
		{5, 4, 0, api.OK},
		{6, 3, 10, api.OK},
		{0, 0, 0, api.OK},
		{1023, 7, 4095, api.OK},
		{5, 3, 10, api.ErrNone},
		{5, 3, 8, api.ErrNone},
		{5, 3, 12, api.ErrNone},
		{5, 2, 9, api.ErrNone},
		{5, 4, 9, api.ErrNone},
		{5, 9, 3, api.ErrNone},
		{6, 3, 9, api.ErrNone},
		{4, 3, 9, api.ErrNone},
		{900, 0, 0, api.ErrNone},
		{-1, 3, 9, api.ErrNone},
		{1024, 3, 9, api.ErrNone},
		{1 << 32, 0, 0, api.ErrNone},
		{math.MinInt, 0, 0, api.ErrNone},
		{math.MaxInt, 7, 4095, api.ErrNone},
		{5, -1, 9, api.ErrNone},
		{5, math.MinInt, math.MinInt, api.ErrNone},
		{5, math.MaxInt, math.MaxInt, api.ErrNone},
		{5, 3, -1, api.ErrNone},
		{5, 3, 4096, api.ErrNone},
		{5, 3, 1<<32 + 9, api.ErrNone},
	} {
		p := newPair(t, l...)
		s := at(x.space, x.page)
		before := p.shot()
		if err := p.del(x.frame, s); err != x.want {
			t.Errorf("Del(%d, %v): %d, want %d", x.frame, s, err, x.want)
		}
		p.same()
		if x.want != api.OK {
			if !sameShot(p.shot(), before) {
				t.Errorf("Del(%d, %v): %v were %v", x.frame, s, p.shot(), before)
			}
			continue
		}
		if err := p.del(x.frame, s); err != api.ErrNone {
			t.Errorf("Del(%d, %v) again: %d, want ErrNone", x.frame, s, err)
		}
		p.same()
	}
}

// P10.1, P10.2: in whatever order spots come and go, they rise.
func TestSpotsRise(t *testing.T) {
	l := []api.Spot{at(0, 4094), at(0, 4095), at(1, 0), at(1, 4095), at(2, 1), at(math.MaxInt, 0)}
	orders(len(l), func(in []int) {
		x := newPair(t)
		for _, i := range in {
			x.add(7, l[i])
		}
		if got := x.r.Spots(7); !slices.Equal(got, l) {
			t.Fatalf("added in the order %v: %v; want %v", in, got, l)
		}
	})
	orders(len(l), func(out []int) {
		x := newPair(t)
		for _, s := range l {
			x.add(7, s)
		}
		left := slices.Clone(l)
		for _, i := range out {
			x.del(7, l[i])
			left = slices.DeleteFunc(left, func(s api.Spot) bool { return s == l[i] })
			if got := x.r.Spots(7); !slices.Equal(got, left) {
				t.Fatalf("deleted in the order %v: %v; want %v", out, got, left)
			}
		}
		if got := x.r.Frames(); len(got) != 0 {
			t.Fatalf("all were deleted in the order %v, but Frames: %v", out, got)
		}
	})
}

// P10.1, P10.2: all pages of some spaces stand on one frame.
func TestManySpots(t *testing.T) {
	for n, frame := range []int{0, 511, 1023} {
		x, c := newPair(t), chance(n)
		for i, k := range c.mix(3 * 4096) {
			s := at(k/4096, k%4096)
			if err := x.r.Add(frame, s); err != api.OK {
				t.Fatalf("Add(%d, %v): %d", frame, s, err)
			}
			if got := x.r.Count(frame); got != i+1 {
				t.Fatalf("Count(%d): %d, want %d", frame, got, i+1)
			}
			x.m.add(frame, s)
			*x.added++
		}
		x.same()
		for i, s := range x.r.Spots(frame) {
			if s != at(i/4096, i%4096) {
				t.Fatalf("frame %d: the spot %d is %v", frame, i, s)
			}
		}
		x.move(frame, 100)
		x.same()
		for _, k := range c.mix(3 * 4096) {
			s := at(k/4096, k%4096)
			if err := x.r.Del(100, s); err != api.OK {
				t.Fatalf("Del(100, %v): %d", s, err)
			}
			x.m.del(100, s)
			*x.added--
		}
		x.same()
	}
}

// P10.2: each frame alone, and then all of them in another order, rising, and gone again in a third.
func TestFrames(t *testing.T) {
	for frame := range 1024 {
		x := newPair(t, stand{frame, at(0, 1)})
		if l := x.r.Frames(); !slices.Equal(l, []int{frame}) {
			t.Errorf("Add(%d, ..), and then Frames: %v", frame, l)
		}
		x.del(frame, at(0, 1))
		if l := x.r.Frames(); len(l) != 0 {
			t.Errorf("Add(%d, ..) and Del, and then Frames: %v", frame, l)
		}
	}
	x, c := newPair(t), chance(5)
	there := map[int]bool{}
	for i, frame := range c.mix(1024) {
		x.add(frame, at(i%3, frame))
		there[frame] = true
		x.rising(there)
	}
	x.same()
	for i, frame := range c.mix(1024) {
		if i%2 == 0 {
			x.add(frame, at(9, 9))
			x.del(frame, at(9, 9))
		}
		x.del(frame, x.r.Spots(frame)[0])
		delete(there, frame)
		x.rising(there)
	}
	x.same()
}

// rising holds Frames against a set of them.
func (x pair) rising(there map[int]bool) {
	x.t.Helper()
	l := x.r.Frames()
	if len(l) != len(there) {
		x.t.Fatalf("%d frames; want %d", len(l), len(there))
	}
	for i, frame := range l {
		if !there[frame] || i > 0 && l[i-1] >= frame {
			x.t.Fatalf("Frames: %v", l)
		}
	}
}

// P10.2: one spot may stand on several frames, and is told of each.
func TestSpotTwice(t *testing.T) {
	x := newPair(t, stand{5, at(1, 1)}, stand{6, at(1, 1)}, stand{7, at(1, 1)})
	x.same()
	x.del(6, at(1, 1))
	if l := x.r.Frames(); !slices.Equal(l, []int{5, 7}) {
		t.Errorf("Frames: %v, want 5, 7", l)
	}
	x.move(7, 6)
	x.same()
}

// P10.3: written rows, with errors in their order; with an error nothing is changed.
func TestMoveEdges(t *testing.T) {
	l := []stand{{5, at(3, 9)}, {5, at(0, 9)}, {5, at(3, 1)}, {9, at(1, 1)}, {0, at(0, 0)}, {1023, at(7, 4095)}}
	for _, x := range []struct {
		from, to int
		want     api.Errno
	}{
		{5, 6, api.OK},
		{5, 4, api.OK},
		{5, 1022, api.OK},
		{0, 1, api.OK},
		{0, 1022, api.OK},
		{1023, 1, api.OK},
		{9, 10, api.OK},
		{5, -1, api.ErrRange},
		{5, 1024, api.ErrRange},
		{5, math.MinInt, api.ErrRange},
		{5, math.MaxInt, api.ErrRange},
		{5, 1<<32 + 6, api.ErrRange},
		{6, -1, api.ErrRange},
		{6, 1024, api.ErrRange},
		{-1, -1, api.ErrRange},
		{-1, 1024, api.ErrRange},
		{1024, 1024, api.ErrRange},
		{math.MaxInt, math.MinInt, api.ErrRange},
		{6, 7, api.ErrNone},
		{6, 6, api.ErrNone},
		{6, 5, api.ErrNone},
		{6, 1023, api.ErrNone},
		{-1, 7, api.ErrNone},
		{-1, 5, api.ErrNone},
		{1024, 7, api.ErrNone},
		{1024, 0, api.ErrNone},
		{math.MinInt, 7, api.ErrNone},
		{math.MaxInt, 1023, api.ErrNone},
		{1 << 32, 7, api.ErrNone},
		{5, 9, api.ErrExist},
		{9, 5, api.ErrExist},
		{5, 0, api.ErrExist},
		{5, 1023, api.ErrExist},
		{0, 1023, api.ErrExist},
		{5, 5, api.ErrExist},
		{0, 0, api.ErrExist},
		{1023, 1023, api.ErrExist},
	} {
		p := newPair(t, l...)
		before := p.shot()
		if err := p.move(x.from, x.to); err != x.want {
			t.Errorf("Move(%d, %d): %d, want %d", x.from, x.to, err, x.want)
		}
		p.same()
		if x.want != api.OK {
			if !sameShot(p.shot(), before) {
				t.Errorf("Move(%d, %d): %v were %v", x.from, x.to, p.shot(), before)
			}
			continue
		}
		if got := p.r.Spots(x.to); !slices.Equal(got, before[x.from]) {
			t.Errorf("Move(%d, %d): %v; want %v", x.from, x.to, got, before[x.from])
		}
	}
}

// P10.3 with numbers of all sorts, of a way back with few frames that have spots, and with many.
func TestMoveSorts(t *testing.T) {
	for _, many := range []int{1, 3, 40} {
		x := newPair(t)
		for i := range many {
			x.add(i*25, at(i%2, i))
			x.add(i*25, at(i%3, i+1))
			x.add(1023-i*25, at(0, i))
		}
		for _, from := range sorts {
			for _, to := range sorts {
				x.move(from, to)
			}
		}
		x.same()
	}
}

// P10.5: moved there and back all is as it was, between all frames.
func TestMoveBack(t *testing.T) {
	x := newPair(t,
		stand{5, at(3, 9)}, stand{5, at(0, 9)}, stand{5, at(3, 1)}, stand{9, at(1, 1)}, stand{0, at(0, 0)}, stand{1023, at(7, 4095)}, stand{1023, at(3, 9)})
	before := x.shot()
	for _, from := range []int{0, 5, 9, 1023} {
		for to := range 1024 {
			if _, there := before[to]; there {
				continue
			}
			if err := x.move(from, to); err != api.OK {
				t.Fatalf("Move(%d, %d): %d", from, to, err)
			}
			if x.r.Count(from) != 0 || slices.Contains(x.r.Frames(), from) || sameShot(x.shot(), before) {
				t.Fatalf("Move(%d, %d): %v", from, to, x.shot())
			}
			if err := x.move(to, from); err != api.OK {
				t.Fatalf("Move(%d, %d): %d", to, from, err)
			}
			if !sameShot(x.shot(), before) {
				t.Fatalf("Move(%d, %d) and back: %v; was %v", from, to, x.shot(), before)
			}
		}
	}
	x.same()
}

// P10.3, P10.5: what was moved through all frames, one behind the other, is all that it was.
func TestMoveAround(t *testing.T) {
	x := newPair(t, stand{0, at(0, 5)}, stand{0, at(9, 5)}, stand{0, at(1, 0)})
	before := x.shot()
	for frame := range 1023 {
		x.move(frame, frame+1)
	}
	if l := x.r.Frames(); !slices.Equal(l, []int{1023}) {
		t.Errorf("Frames: %v, want 1023", l)
	}
	x.move(1023, 0)
	if !sameShot(x.shot(), before) {
		t.Errorf("%v; was %v", x.shot(), before)
	}
	x.same()
}

// P10.3: what was moved knows nothing more of where it came from, whatever comes and goes here and there.
func TestMoveApart(t *testing.T) {
	for n := 1; n < 20; n++ {
		x := newPair(t)
		for i := range n {
			x.add(5, at(i%4, i*2))
		}
		x.move(5, 6)
		for i := range n {
			x.add(5, at(i%3, i))
			x.add(6, at(i%5, i*2+1))
			x.del(6, at(i%4, i*2))
		}
		x.same()
		if err := x.move(5, 6); err != api.ErrExist {
			t.Errorf("Move(5, 6) again: %d, want ErrExist", err)
		}
		for _, s := range x.r.Spots(6) {
			x.del(6, s)
		}
		x.move(5, 6)
		x.same()
	}
}

// R3: what is told is new memory, and stays as it was told.
func TestToldNew(t *testing.T) {
	for n := range 40 {
		x := newPair(t)
		for i := range n {
			x.add(5, at(i%2, i))
			x.add(i*3, at(5, i))
		}
		spots, frames := x.r.Spots(5), x.r.Frames()
		more, others := x.r.Spots(5), x.r.Frames()
		for i := range spots {
			spots[i] = at(-9, -9)
		}
		for i := range frames {
			frames[i] = -9
		}
		_, _ = append(spots, at(-8, -8)), append(frames, -8)
		x.same()
		if slices.Contains(more, at(-9, -9)) || slices.Contains(others, -9) {
			t.Errorf("two answers share their memory: %v, %v", more, others)
		}
		wantSpots, wantFrames := slices.Clone(more), slices.Clone(others)
		x.add(5, at(0, 4000))
		x.add(5, at(0, 0))
		x.add(1000, at(0, 0))
		x.del(5, at(1, 1))
		x.move(5, 900)
		x.add(900, at(0, 2))
		for _, s := range x.r.Spots(900) {
			x.del(900, s)
		}
		if !slices.Equal(more, wantSpots) || !slices.Equal(others, wantFrames) {
			t.Errorf("what was told became %v, %v; was %v, %v", more, others, wantSpots, wantFrames)
		}
	}
}

// step does one of all calls, mostly ones that may be.
func (x pair) step(c *chance, frames, spaces, pages int) {
	x.t.Helper()
	s := at(c.below(spaces), c.below(pages))
	switch c.below(12) {
	case 0:
		x.move(c.below(frames), c.below(frames))
	case 1:
		x.move(c.below(frames+4)-2, c.below(1028)-2)
	case 2, 3:
		x.del(c.below(frames), s)
	case 4, 5:
		frame := c.below(frames)
		if l := x.r.Spots(frame); len(l) > 0 {
			x.del(frame, l[c.below(len(l))])
		}
	case 6:
		x.add(c.below(1030)-3, at(c.below(4)-2, c.below(4100)-2))
	default:
		x.add(c.below(frames), s)
	}
}

// P10.1 to P10.4: long rows of calls, of few frames and spots and of many.
func TestRows(t *testing.T) {
	c := chance(1)
	for _, frames := range []int{1, 2, 3, 8, 100, 1024} {
		for _, spaces := range []int{1, 3, 16} {
			for _, pages := range []int{2, 10, 4096} {
				x := newPair(t)
				for i := range 300 {
					x.step(&c, frames, spaces, pages)
					if i%50 == 0 {
						x.same()
					}
				}
				x.same()
				for frame := range 1024 {
					for _, s := range x.r.Spots(frame) {
						x.del(frame, s)
					}
				}
				x.same()
			}
		}
	}
}

// R4: two know nothing of each other, and answer alike what was done alike.
func TestTwo(t *testing.T) {
	x, y := newPair(t), newPair(t)
	c, d := chance(3), chance(3)
	for range 400 {
		x.step(&c, 9, 3, 12)
	}
	y.same()
	if len(x.r.Frames()) == 0 || len(y.r.Frames()) != 0 {
		t.Errorf("%v and %v", x.r.Frames(), y.r.Frames())
	}
	for range 400 {
		y.step(&d, 9, 3, 12)
	}
	x.same()
	y.same()
	if !sameShot(x.shot(), y.shot()) {
		t.Errorf("%v and %v", x.shot(), y.shot())
	}
}
