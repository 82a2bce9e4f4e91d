package pool_test

import (
	"math"
	"slices"
	"testing"

	"pantile/api"
	"pantile/pool"
)

// Numbers of all sorts: around 0, blocks of both orders, the ends of frames, how many may be surplus, and what a number can be.
var sorts = []int{
	math.MinInt, math.MinInt + 1, math.MinInt + 64, math.MinInt / 2, -1 << 32, -1024, -64, -16, -9, -8, -7, -1,
	0, 1, 2, 3, 4, 5, 6, 7, 8, 9, 15, 16, 17, 24, 56, 63, 64, 65, 72, 127, 128, 129, 896, 952, 959, 960, 961, 968, 1008, 1015, 1016, 1017, 1023, 1024, 1025, 1032, 1088,
	1 << 16, 1 << 32, 1<<32 + 8, 1<<32 + 64, math.MaxInt / 2, math.MaxInt - 1023, math.MaxInt - 63, math.MaxInt - 7, math.MaxInt - 1, math.MaxInt,
}

// What a frame is to the model.
const (
	away = iota
	free
	used
)

// model is what each frame is: a pool's pages are as many frames as one page has, all alike.
type model struct {
	size, room        int
	is                [1024]int
	promised, surplus int
}

// set lets all frames of a page be something.
func (m *model) set(frame, is int) {
	for i := range m.size {
		m.is[frame+i] = is
	}
}

// of tells the first frames of all pages that are something, rising.
func (m *model) of(is int) []int {
	var l []int
	for frame := 0; frame < 1024; frame += m.size {
		if m.is[frame] == is {
			l = append(l, frame)
		}
	}
	return l
}

// wrong says Grow's errors.
func (m *model) wrong(frame int) api.Errno {
	switch {
	case frame < 0 || frame > 1024-m.size:
		return api.ErrRange
	case frame&(m.size-1) != 0:
		return api.ErrAlign
	case m.is[frame] != away:
		return api.ErrExist
	}
	return api.OK
}

// grow says P15.1.
func (m *model) grow(frame int) api.Errno {
	if err := m.wrong(frame); err != api.OK {
		return err
	}
	m.set(frame, free)
	return api.OK
}

// shrink says P15.2.
func (m *model) shrink() (int, api.Errno) {
	l := m.of(free)
	if len(l) <= m.promised {
		return 0, api.ErrBusy
	}
	m.set(slices.Max(l), away)
	return slices.Max(l), api.OK
}

// promise says P15.3.
func (m *model) promise(n int) api.Errno {
	if n < 0 {
		return api.ErrArg
	}
	if len(m.of(free))-m.promised < n {
		return api.ErrMem
	}
	m.promised += n
	return api.OK
}

// unpromise says P15.3.
func (m *model) unpromise(n int) api.Errno {
	if n < 0 {
		return api.ErrArg
	}
	if m.promised < n {
		return api.ErrRange
	}
	m.promised -= n
	return api.OK
}

// take says P15.4.
func (m *model) take(promised bool) (int, api.Errno) {
	l := m.of(free)
	if promised {
		if m.promised == 0 {
			return 0, api.ErrRange
		}
		m.promised--
	} else if len(l) <= m.promised {
		return 0, api.ErrBus
	}
	m.set(slices.Min(l), used)
	return slices.Min(l), api.OK
}

// extra says P15.5.
func (m *model) extra(frame int) api.Errno {
	if err := m.wrong(frame); err != api.OK {
		return err
	}
	if m.surplus >= m.room {
		return api.ErrFull
	}
	m.surplus++
	m.set(frame, used)
	return api.OK
}

// give says P15.5.
func (m *model) give(frame int, promise bool) (bool, api.Errno) {
	if !slices.Contains(m.of(used), frame) {
		return false, api.ErrNone
	}
	if promise {
		m.promised++
	} else if m.surplus > 0 {
		m.surplus--
		m.set(frame, away)
		return true, api.OK
	}
	m.set(frame, free)
	return false, api.OK
}

// pair is a pool, and what it should be.
type pair struct {
	t *testing.T
	p *pool.Pool
	m *model
}

// newPair makes a pool with pages, each of which may be.
func newPair(t *testing.T, order, surplus int, frames ...int) pair {
	t.Helper()
	p, err := pool.New(order, surplus)
	if p == nil || err != api.OK {
		t.Fatalf("New(%d, %d): %v, %d", order, surplus, p, err)
	}
	x := pair{t, p, &model{size: map[int]int{3: 8, 6: 64}[order], room: surplus}}
	for _, frame := range frames {
		if err := x.grow(frame); err != api.OK {
			t.Fatalf("Grow(%d): %d", frame, err)
		}
	}
	return x
}

func (x pair) grow(frame int) api.Errno {
	x.t.Helper()
	err, want := x.p.Grow(frame), x.m.grow(frame)
	if err != want {
		x.t.Fatalf("Grow(%d): %d, want %d", frame, err, want)
	}
	x.same()
	return err
}

func (x pair) shrink() (int, api.Errno) {
	x.t.Helper()
	frame, err := x.p.Shrink()
	want, wantErr := x.m.shrink()
	if frame != want || err != wantErr {
		x.t.Fatalf("Shrink: %d, %d; want %d, %d", frame, err, want, wantErr)
	}
	x.same()
	return frame, err
}

func (x pair) promise(n int) api.Errno {
	x.t.Helper()
	err, want := x.p.Promise(n), x.m.promise(n)
	if err != want {
		x.t.Fatalf("Promise(%d): %d, want %d", n, err, want)
	}
	x.same()
	return err
}

func (x pair) unpromise(n int) api.Errno {
	x.t.Helper()
	err, want := x.p.Unpromise(n), x.m.unpromise(n)
	if err != want {
		x.t.Fatalf("Unpromise(%d): %d, want %d", n, err, want)
	}
	x.same()
	return err
}

func (x pair) take(promised bool) (int, api.Errno) {
	x.t.Helper()
	frame, err := x.p.Take(promised)
	want, wantErr := x.m.take(promised)
	if frame != want || err != wantErr {
		x.t.Fatalf("Take(%t): %d, %d; want %d, %d", promised, frame, err, want, wantErr)
	}
	x.same()
	return frame, err
}

func (x pair) extra(frame int) api.Errno {
	x.t.Helper()
	err, want := x.p.Extra(frame), x.m.extra(frame)
	if err != want {
		x.t.Fatalf("Extra(%d): %d, want %d", frame, err, want)
	}
	x.same()
	return err
}

func (x pair) give(frame int, promise bool) (bool, api.Errno) {
	x.t.Helper()
	gone, err := x.p.Give(frame, promise)
	want, wantErr := x.m.give(frame, promise)
	if gone != want || err != wantErr {
		x.t.Fatalf("Give(%d, %t): %t, %d; want %t, %d", frame, promise, gone, err, want, wantErr)
	}
	x.same()
	return gone, err
}

// same holds all that is told against the model's (P15.6); there are never more promised than free (P15.7).
func (x pair) same() {
	x.t.Helper()
	l := x.p.Free()
	if want := x.m.of(free); !slices.Equal(l, want) {
		x.t.Fatalf("Free: %v, want %v", l, want)
	}
	if n, want := x.p.Total(), len(x.m.of(free))+len(x.m.of(used)); n != want {
		x.t.Fatalf("Total: %d, want %d", n, want)
	}
	if n := x.p.Promised(); n != x.m.promised || n > len(l) {
		x.t.Fatalf("Promised: %d, want %d, of %v", n, x.m.promised, l)
	}
	if n := x.p.Surplus(); n != x.m.surplus || n > x.m.room {
		x.t.Fatalf("Surplus: %d, want %d, of %d", n, x.m.surplus, x.m.room)
	}
}

// chance makes numbers in a row that always is the same.
type chance uint64

func (c *chance) below(n int) int {
	*c = *c*6364136223846793005 + 1442695040888963407
	return int(uint64(*c) >> 33 % uint64(n))
}

// mix puts numbers from 0 on in an order of chance.
func (c *chance) mix(n int) []int {
	l := make([]int, n)
	for i := range l {
		j := c.below(i + 1)
		l[i], l[j] = l[j], i
	}
	return l
}

// orders hands on each order of the numbers below n.
func orders(n int, each func([]int)) {
	var longer func(l []int)
	longer = func(l []int) {
		if len(l) == n {
			each(l)
			return
		}
		for i := range n {
			if !slices.Contains(l, i) {
				longer(append(slices.Clone(l), i))
			}
		}
	}
	longer(nil)
}

// rows hands on each row of n numbers below some.
func rows(n, below int, each func([]int)) {
	l := make([]int, n)
	for {
		each(l)
		i := 0
		for i < n && l[i] == below-1 {
			l[i] = 0
			i++
		}
		if i == n {
			return
		}
		l[i]++
	}
}

// The chapter's example.
func TestExample(t *testing.T) {
	p, err := pool.New(3, 0)
	if err != api.OK {
		t.Fatalf("New(3, 0): %d", err)
	}
	for _, frame := range []int{8, 16} {
		if err := p.Grow(frame); err != api.OK {
			t.Errorf("Grow(%d): %d", frame, err)
		}
	}
	if err := p.Promise(1); err != api.OK {
		t.Errorf("Promise(1): %d", err)
	}
	if frame, err := p.Take(false); frame != 8 || err != api.OK {
		t.Errorf("Take(false): %d, %d; want 8", frame, err)
	}
	if frame, err := p.Take(false); frame != 0 || err != api.ErrBus {
		t.Errorf("Take(false): %d, %d; want ErrBus", frame, err)
	}
	if frame, err := p.Shrink(); frame != 0 || err != api.ErrBusy {
		t.Errorf("Shrink: %d, %d; want ErrBusy", frame, err)
	}
	if frame, err := p.Take(true); frame != 16 || err != api.OK {
		t.Errorf("Take(true): %d, %d; want 16", frame, err)
	}
}

// P15.1: just two orders, and from 0 to 64 surplus pages; a new pool has no pages.
func TestNew(t *testing.T) {
	for _, order := range sorts {
		for _, surplus := range sorts {
			p, err := pool.New(order, surplus)
			switch {
			case order != 3 && order != 6 || surplus < 0 || surplus > 64:
				if p != nil || err != api.ErrArg {
					t.Errorf("New(%d, %d): %v, %d; want ErrArg", order, surplus, p, err)
				}
			case p == nil || err != api.OK:
				t.Errorf("New(%d, %d): %v, %d", order, surplus, p, err)
			default:
				x := newPair(t, order, surplus)
				x.shrink()
				x.take(false)
				x.take(true)
				x.promise(0)
				x.promise(1)
				x.unpromise(0)
				x.unpromise(1)
				x.give(0, false)
				x.give(0, true)
				x.extra(64)
			}
		}
	}
}

// P15.1 to P15.6: ErrNil comes ahead of all other errors, and nil tells nothing.
func TestNil(t *testing.T) {
	var p *pool.Pool
	for _, n := range sorts {
		for what, err := range []api.Errno{p.Grow(n), p.Promise(n), p.Unpromise(n), p.Extra(n)} {
			if err != api.ErrNil {
				t.Errorf("the call %d, of %d: %d, want ErrNil", what, n, err)
			}
		}
		for _, promise := range []bool{false, true} {
			if gone, err := p.Give(n, promise); gone || err != api.ErrNil {
				t.Errorf("Give(%d, %t): %t, %d; want ErrNil", n, promise, gone, err)
			}
		}
	}
	if frame, err := p.Shrink(); frame != 0 || err != api.ErrNil {
		t.Errorf("Shrink: %d, %d; want ErrNil", frame, err)
	}
	for _, promised := range []bool{false, true} {
		if frame, err := p.Take(promised); frame != 0 || err != api.ErrNil {
			t.Errorf("Take(%t): %d, %d; want ErrNil", promised, frame, err)
		}
	}
	if l := p.Free(); len(l) != 0 {
		t.Errorf("Free: %v, want none", l)
	}
	for what, n := range []int{p.Total(), p.Promised(), p.Surplus()} {
		if n != 0 {
			t.Errorf("the look %d: %d, want 0", what, n)
		}
	}
}

// P15.1, P15.5: every error of Grow and of Extra, in the order in which they are named, of a pool with a free page and one that is not.
func TestGrowErrors(t *testing.T) {
	for _, c := range []struct {
		order, frame int
		want         api.Errno
	}{
		{3, 0, api.OK}, {3, 24, api.OK}, {3, 136, api.OK}, {3, 1016, api.OK}, {6, 0, api.OK}, {6, 192, api.OK}, {6, 960, api.OK},
		{3, -8, api.ErrRange}, {3, -1, api.ErrRange}, {3, 1017, api.ErrRange}, {3, 1024, api.ErrRange}, {3, math.MaxInt - 7, api.ErrRange}, {3, math.MinInt, api.ErrRange},
		{6, -64, api.ErrRange}, {6, -1, api.ErrRange}, {6, 961, api.ErrRange}, {6, 1016, api.ErrRange}, {6, 1024, api.ErrRange}, {6, math.MinInt, api.ErrRange},
		{3, 1, api.ErrAlign}, {3, 4, api.ErrAlign}, {3, 23, api.ErrAlign}, {3, 1015, api.ErrAlign}, {3, 1012, api.ErrAlign},
		{6, 8, api.ErrAlign}, {6, 32, api.ErrAlign}, {6, 56, api.ErrAlign}, {6, 952, api.ErrAlign}, {6, 959, api.ErrAlign},
		{3, 64, api.ErrExist}, {3, 128, api.ErrExist}, {6, 64, api.ErrExist}, {6, 128, api.ErrExist},
		// ErrAlign ahead of ErrExist: frames of a page that are not its first
		{3, 65, api.ErrAlign}, {3, 135, api.ErrAlign}, {6, 72, api.ErrAlign}, {6, 160, api.ErrAlign}, {6, 191, api.ErrAlign},
	} {
		for _, extra := range []bool{false, true} {
			x := newPair(t, c.order, 1, 64, 128)
			x.take(false)
			got := api.OK
			if extra {
				got = x.extra(c.frame)
			} else {
				got = x.grow(c.frame)
			}
			if got != c.want {
				t.Errorf("order %d, frame %d, extra %t: %d, want %d", c.order, c.frame, extra, got, c.want)
			}
			full := newPair(t, c.order, 0, 64, 128)
			full.take(false)
			want := c.want
			if want == api.OK {
				want = api.ErrFull // behind all others
			}
			if got := full.extra(c.frame); got != want {
				t.Errorf("order %d, frame %d, where none may be surplus: %d, want %d", c.order, c.frame, got, want)
			}
		}
	}
}

// P15.1, P15.5: numbers of every sort as frames, of pools in which some are there.
func TestSorts(t *testing.T) {
	for _, order := range []int{3, 6} {
		for _, frame := range sorts {
			for _, promise := range []bool{false, true} {
				x := newPair(t, order, 2, 0, 64, 896, 960)
				x.take(false)
				x.promise(1)
				x.take(false)
				x.extra(128)
				x.give(frame, promise)
				x.give(frame, promise)
				x.grow(frame)
				x.extra(frame)
				x.give(frame, promise)
				x.extra(frame)
				x.grow(frame)
			}
		}
	}
}

// P15.3: numbers of every sort are promised, and are promised no more.
func TestPromiseSorts(t *testing.T) {
	for _, pages := range []int{0, 1, 2, 3, 9, 128} {
		for _, first := range []int{0, 1, 2, 8, 64, 128} {
			for _, n := range sorts {
				x := newPair(t, 3, 64)
				for i := range pages {
					x.grow(8 * i)
				}
				x.promise(first)
				x.promise(n)
				x.unpromise(n)
				x.unpromise(n)
				x.promise(n)
			}
		}
	}
}

// P15.3: every error, and the edges, of four pages of which one is not free.
func TestPromiseErrors(t *testing.T) {
	for _, c := range []struct {
		had, n            int
		promise, withdraw api.Errno
	}{
		{0, 0, api.OK, api.OK}, {0, 3, api.OK, api.ErrRange}, {0, 4, api.ErrMem, api.ErrRange}, {0, 1, api.OK, api.ErrRange},
		{2, 0, api.OK, api.OK}, {2, 1, api.OK, api.OK}, {2, 2, api.ErrMem, api.OK}, {2, 3, api.ErrMem, api.ErrRange},
		{3, 0, api.OK, api.OK}, {3, 1, api.ErrMem, api.OK}, {3, 3, api.ErrMem, api.OK}, {3, 4, api.ErrMem, api.ErrRange},
		{0, -1, api.ErrArg, api.ErrArg}, {3, -1, api.ErrArg, api.ErrArg}, {3, -3, api.ErrArg, api.ErrArg},
		{3, math.MinInt, api.ErrArg, api.ErrArg}, {3, math.MaxInt, api.ErrMem, api.ErrRange}, {0, math.MaxInt, api.ErrMem, api.ErrRange},
	} {
		for _, withdraw := range []bool{false, true} {
			x := newPair(t, 3, 0, 8, 16, 24, 32)
			x.take(false)
			x.promise(c.had)
			got, want := api.OK, c.promise
			if withdraw {
				got, want = x.unpromise(c.n), c.withdraw
			} else {
				got = x.promise(c.n)
			}
			if got != want {
				t.Errorf("%d promised, %d, taken back: %t: %d, want %d", c.had, c.n, withdraw, got, want)
			}
		}
	}
}

// P15.2, P15.4: with each count of pages and of promises, till neither call has anything left.
func TestTakeShrink(t *testing.T) {
	for pages := range 8 {
		for promised := range pages + 1 {
			rows(pages, 3, func(row []int) {
				x := newPair(t, 6, 0)
				for i := range pages {
					x.grow(64 * (3*i%16 + 1) % 1024)
				}
				x.promise(promised)
				for _, what := range row {
					switch what {
					case 0:
						x.shrink()
					case 1:
						x.take(false)
					case 2:
						x.take(true)
					}
				}
			})
		}
	}
}

// P15.2, P15.4: in whatever order pages came, the least one is taken, and the greatest one goes.
func TestLeastGreatest(t *testing.T) {
	orders(6, func(order []int) {
		x, y := newPair(t, 3, 0), newPair(t, 3, 0)
		for _, i := range order {
			x.grow(8 + 16*i)
			y.grow(8 + 16*i)
		}
		for i := range 6 {
			if frame, err := x.take(false); frame != 8+16*i || err != api.OK {
				t.Fatalf("of %v: Take(false): %d, %d; want %d", order, frame, err, 8+16*i)
			}
			if frame, err := y.shrink(); frame != 88-16*i || err != api.OK {
				t.Fatalf("of %v: Shrink: %d, %d; want %d", order, frame, err, 88-16*i)
			}
		}
		for _, i := range order {
			x.give(8+16*i, i%2 == 0)
		}
		for i := range 6 {
			if frame, err := x.take(i%2 == 0); frame != 8+16*i || err != api.OK {
				t.Fatalf("given back as %v: Take(%t): %d, %d; want %d", order, i%2 == 0, frame, err, 8+16*i)
			}
		}
	})
}

// P15.5: every error of Give, and whether the page is there no more.
func TestGive(t *testing.T) {
	for _, c := range []struct {
		order, surplus, frame int
		promise               bool
		gone                  bool
		want                  api.Errno
	}{
		{3, 0, 64, false, false, api.OK}, {3, 0, 64, true, false, api.OK},
		{3, 1, 64, false, true, api.OK}, {3, 1, 64, true, false, api.OK}, {3, 2, 64, false, true, api.OK},
		{6, 1, 64, false, true, api.OK}, {6, 1, 64, true, false, api.OK}, {6, 0, 64, false, false, api.OK},
		{3, 1, 128, false, false, api.ErrNone}, {3, 1, 128, true, false, api.ErrNone}, {3, 0, 128, true, false, api.ErrNone},
		{3, 1, 192, false, false, api.ErrNone}, {3, 1, 192, true, false, api.ErrNone},
		{3, 1, 65, false, false, api.ErrNone}, {3, 1, 71, true, false, api.ErrNone}, {3, 1, 72, false, false, api.ErrNone}, {3, 1, 56, false, false, api.ErrNone},
		{6, 1, 72, false, false, api.ErrNone}, {6, 1, 127, true, false, api.ErrNone}, {6, 0, 0, true, false, api.ErrNone},
		{3, 1, -64, false, false, api.ErrNone}, {3, 1, 1024, false, false, api.ErrNone}, {3, 1, math.MinInt, true, false, api.ErrNone}, {3, 1, math.MaxInt, true, false, api.ErrNone},
	} {
		x := newPair(t, c.order, 2, 64, 128)
		x.take(false)
		for i := range c.surplus {
			x.extra(512 + 64*i)
		}
		if gone, err := x.give(c.frame, c.promise); gone != c.gone || err != c.want {
			t.Errorf("order %d, %d surplus: Give(%d, %t): %t, %d; want %t, %d", c.order, c.surplus, c.frame, c.promise, gone, err, c.gone, c.want)
		}
	}
}

// P15.5: whichever pages come back first, as many go as are surplus, and a page that is promised anew stays.
func TestGiveOrders(t *testing.T) {
	for extras := range 6 {
		for promise := range 32 {
			orders(5, func(order []int) {
				x := newPair(t, 3, 5)
				for i := range 5 - extras {
					x.grow(16 * i)
					x.take(false)
				}
				for i := 5 - extras; i < 5; i++ {
					x.extra(16 * i)
				}
				left := extras
				for _, i := range order {
					stays := promise>>i&1 != 0
					gone, err := x.give(16*i, stays)
					if gone != (!stays && left > 0) || err != api.OK {
						t.Fatalf("%d surplus, given back as %v: Give(%d, %t): %t, %d", left, order, 16*i, stays, gone, err)
					}
					if gone {
						left--
					}
				}
			})
		}
	}
}

// P15.1, P15.5: as many are surplus as the pool was made with, and no more, whatever pages it has beside them.
func TestExtraFull(t *testing.T) {
	for room := range 65 {
		x := newPair(t, 3, room, 1016, 1008)
		for i := range room {
			if err := x.extra(8 * i); err != api.OK {
				t.Fatalf("Extra(%d), the %d-th of %d: %d", 8*i, i, room, err)
			}
		}
		if err := x.extra(8 * room); err != api.ErrFull {
			t.Errorf("Extra(%d) beyond %d: %d, want ErrFull", 8*room, room, err)
		}
		if room == 0 {
			continue
		}
		x.give(0, true)
		if err := x.extra(8 * room); err != api.ErrFull {
			t.Errorf("Extra(%d), when a page came back that is promised: %d, want ErrFull", 8*room, err)
		}
		x.take(true)
		x.give(0, false)
		if err := x.extra(8 * room); err != api.OK {
			t.Errorf("Extra(%d), when a surplus page is gone: %d", 8*room, err)
		}
		x.take(false)
		x.give(1008, false)
		if err := x.extra(0); err != api.OK {
			t.Errorf("Extra(0), when another page is gone: %d", err)
		}
	}
}

// P15.2, P15.5: how many are surplus changes by Extra and Give alone, whichever pages go by Shrink.
func TestShrinkSurplus(t *testing.T) {
	x := newPair(t, 3, 1)
	x.extra(24)
	x.give(24, true)
	x.unpromise(1)
	if frame, err := x.shrink(); frame != 24 || err != api.OK || x.p.Surplus() != 1 || x.p.Total() != 0 {
		t.Errorf("Shrink: %d, %d; %d surplus of %d", frame, err, x.p.Surplus(), x.p.Total())
	}
	if err := x.extra(24); err != api.ErrFull {
		t.Errorf("Extra(24): %d, want ErrFull", err)
	}
	x.grow(8)
	x.take(false)
	if gone, err := x.give(8, false); !gone || err != api.OK {
		t.Errorf("Give(8, false): %t, %d; want true", gone, err)
	}
}

// P15.1: all pages that there can be, in whatever order, and none of them twice.
func TestAllPages(t *testing.T) {
	c := chance(5)
	for _, order := range []int{3, 6} {
		size := 1 << order
		for range 3 {
			x := newPair(t, order, 64)
			for i, page := range c.mix(1024 / size) {
				if i%3 == 0 {
					x.extra(size * page)
				} else {
					x.grow(size * page)
				}
			}
			if n := x.p.Total(); n != 1024/size {
				t.Errorf("Total: %d, want %d", n, 1024/size)
			}
			for frame := range 1024 {
				if err := x.p.Grow(frame); err == api.OK {
					t.Errorf("Grow(%d), where all are there: %d", frame, err)
				}
			}
			x.promise(len(x.p.Free()) / 2)
			for len(x.p.Free()) > 0 {
				x.take(c.below(2) == 0)
			}
			for _, page := range c.mix(1024 / size) {
				x.give(size*page, c.below(2) == 0)
			}
			x.unpromise(x.p.Promised())
			for x.p.Total() > 0 {
				x.shrink()
			}
			x.shrink()
		}
	}
}

// P15.7: as long as one is promised, Take of a promised one tells a page, whatever row of other calls came ahead.
func TestPromisedKept(t *testing.T) {
	rows(6, 6, func(row []int) {
		x := newPair(t, 3, 1, 16, 8, 32)
		x.promise(2)
		for _, what := range row {
			switch what {
			case 0:
				x.shrink()
			case 1:
				x.take(false)
			case 2:
				x.promise(1)
			case 3:
				x.extra(24)
			case 4:
				x.give(24, false)
			case 5:
				x.give(8, true)
			}
		}
		for n := x.p.Promised(); n > 0; n-- {
			if frame, err := x.take(true); err != api.OK {
				t.Fatalf("after %v: Take(true), %d promised: %d, %d", row, n, frame, err)
			}
		}
		if frame, err := x.take(true); frame != 0 || err != api.ErrRange {
			t.Fatalf("after %v: Take(true), none promised: %d, %d; want ErrRange", row, frame, err)
		}
	})
}

// R3: what is told is new memory, and stays as it was told.
func TestToldNew(t *testing.T) {
	for n := range 20 {
		x := newPair(t, 3, 9)
		for i := range n {
			x.grow(8 * (7*i%20 + 1))
		}
		l, more := x.p.Free(), x.p.Free()
		for i := range l {
			l[i] = -9
		}
		_ = append(l, -8)
		x.same()
		want := slices.Clone(more)
		for i := range n {
			x.take(false)
			x.grow(8 * (30 + i))
			x.shrink()
			x.grow(0)
			x.take(false)
			x.give(0, false)
		}
		if !slices.Equal(more, want) {
			t.Errorf("what was told became %v; was %v", more, want)
		}
	}
}

// step does one of all calls, mostly ones that may be.
func (x pair) step(c *chance, pages int) {
	x.t.Helper()
	frame := x.m.size * c.below(pages)
	if c.below(12) == 0 {
		frame = c.below(1100) - 40
	}
	switch c.below(12) {
	case 0, 1, 2:
		x.grow(frame)
	case 3:
		x.shrink()
	case 4:
		x.promise(c.below(5) - 1)
	case 5:
		x.unpromise(c.below(4) - 1)
	case 6, 7:
		x.take(c.below(2) == 0)
	case 8:
		x.extra(frame)
	default:
		if l := x.m.of(used); len(l) > 0 && c.below(5) > 0 {
			frame = l[c.below(len(l))]
		}
		x.give(frame, c.below(2) == 0)
	}
}

// P15.1 to P15.7: long rows of calls, of few pages and of many.
func TestRows(t *testing.T) {
	c := chance(7)
	for _, order := range []int{3, 6} {
		for _, room := range []int{0, 1, 3, 64} {
			for _, pages := range []int{1, 3, 9, 1024 >> order} {
				x := newPair(t, order, room)
				for range 4000 {
					x.step(&c, min(pages, 1024>>order))
				}
				for x.p.Promised() > 0 {
					x.take(true)
				}
				for len(x.p.Free()) > 0 {
					x.shrink()
				}
			}
		}
	}
}

// R4: two know nothing of each other, and answer alike what was done alike.
func TestTwo(t *testing.T) {
	x, y := newPair(t, 3, 5), newPair(t, 3, 5)
	c, d := chance(3), chance(3)
	for range 400 {
		x.step(&c, 40)
	}
	y.same()
	if x.p.Total() == 0 || y.p.Total() != 0 {
		t.Errorf("%d and %d pages", x.p.Total(), y.p.Total())
	}
	for range 400 {
		y.step(&d, 40)
	}
	x.same()
	y.same()
	if !slices.Equal(x.p.Free(), y.p.Free()) || *x.m != *y.m {
		t.Errorf("%v and %v", x.p.Free(), y.p.Free())
	}
}
