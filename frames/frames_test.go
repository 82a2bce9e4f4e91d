package frames_test

import (
	"math"
	"slices"
	"testing"

	"pantile/api"
	"pantile/frames"
)

// Numbers of all sorts: around 0, states, the ends of few frames and of many, and what a number can be.
var sorts = []int{
	math.MinInt, math.MinInt + 1, math.MinInt + 8, math.MinInt / 2, -1 << 32, -1025, -1024, -9, -8, -7, -6, -2, -1,
	0, 1, 2, 3, 4, 5, 6, 7, 8, 9, 15, 16, 17, 63, 64, 255, 256, 257, 1015, 1016, 1022, 1023, 1024, 1025,
	1 << 16, 1 << 32, 1<<32 + 1, 1<<32 + 8, math.MaxInt / 2, math.MaxInt - 1023, math.MaxInt - 8, math.MaxInt - 7, math.MaxInt - 1, math.MaxInt,
}

// Which state (a row) may become which (a column): free, table, data, pool, held, away.
var may = [6]string{
	"-yyyyy",
	"y-----",
	"y---yy",
	"y-----",
	"y-y---",
	"y-y---",
}

// model is of each state which frames are so: each frame is in just one of the sets.
type model struct {
	n    int
	sets [6]map[int]bool
}

// turn says P16.2.
func (m *model) turn(frame, n, from, to int) api.Errno {
	if n < 1 || from < 0 || from > 5 || to < 0 || to > 5 {
		return api.ErrArg
	}
	if frame < 0 || frame >= m.n || n > m.n || frame+n > m.n {
		return api.ErrRange
	}
	if may[from][to] != 'y' {
		return api.ErrForm
	}
	for i := frame; i < frame+n; i++ {
		if !m.sets[from][i] {
			return api.ErrBusy
		}
	}
	for i := frame; i < frame+n; i++ {
		delete(m.sets[from], i)
		m.sets[to][i] = true
	}
	return api.OK
}

// is says P16.3.
func (m *model) is(frame int) int {
	for is, set := range m.sets {
		if set[frame] {
			return is
		}
	}
	return -1
}

// count says P16.3.
func (m *model) count(is int) int {
	if is < 0 || is > 5 {
		return 0
	}
	return len(m.sets[is])
}

// next says P16.3.
func (m *model) next(frame, is int) int {
	if is < 0 || is > 5 {
		return -1
	}
	least := -1
	for i := range m.sets[is] {
		if i >= frame && (least < 0 || i < least) {
			least = i
		}
	}
	return least
}

// pair is frames, and what they should be.
type pair struct {
	t *testing.T
	f *frames.Frames
	m *model
}

// newPair makes n frames, of which the first ones are so.
func newPair(t *testing.T, n int, is ...int) pair {
	t.Helper()
	f, err := frames.New(n)
	if f == nil || err != api.OK {
		t.Fatalf("New(%d): %v, %d", n, f, err)
	}
	x := pair{t, f, &model{n: n}}
	for i := range x.m.sets {
		x.m.sets[i] = map[int]bool{}
	}
	for frame := range n {
		x.m.sets[0][frame] = true
	}
	for frame, is := range is {
		if err := x.f.Turn(frame, 1, 0, is); is != 0 && err != api.OK {
			t.Fatalf("Turn(%d, 1, 0, %d): %d", frame, is, err)
		}
		x.m.turn(frame, 1, 0, is)
	}
	return x
}

// turn turns both, and tells what came of it.
func (x pair) turn(frame, n, from, to int) api.Errno {
	x.t.Helper()
	err, want := x.f.Turn(frame, n, from, to), x.m.turn(frame, n, from, to)
	if err != want {
		x.t.Fatalf("Turn(%d, %d, %d, %d): %d, want %d", frame, n, from, to, err, want)
	}
	x.same()
	return err
}

// same holds what each frame is, and how many are so, against the model's (P16.3): all counts together are all frames (P16.4).
func (x pair) same() {
	x.t.Helper()
	if n := x.f.Len(); n != x.m.n {
		x.t.Fatalf("Len: %d, want %d", n, x.m.n)
	}
	for frame := -1; frame <= x.m.n; frame++ {
		if is, want := x.f.Is(frame), x.m.is(frame); is != want {
			x.t.Fatalf("Is(%d): %d, want %d", frame, is, want)
		}
	}
	sum := 0
	for is := -1; is <= 6; is++ {
		n, want := x.f.Count(is), x.m.count(is)
		if n != want {
			x.t.Fatalf("Count(%d): %d, want %d", is, n, want)
		}
		sum += n
	}
	if sum != x.m.n {
		x.t.Fatalf("all counts together: %d, want %d", sum, x.m.n)
	}
}

// nexts holds the next one of each state against the model's, from some frames on (P16.3).
func (x pair) nexts(from ...int) {
	x.t.Helper()
	for _, frame := range from {
		for is := -2; is <= 7; is++ {
			if got, want := x.f.Next(frame, is), x.m.next(frame, is); got != want {
				x.t.Fatalf("Next(%d, %d): %d, want %d", frame, is, got, want)
			}
		}
	}
}

// upTo tells the numbers from one up to another.
func upTo(from, to int) []int {
	var l []int
	for i := from; i <= to; i++ {
		l = append(l, i)
	}
	return l
}

// chance makes numbers in a row that always is the same.
type chance uint64

func (c *chance) below(n int) int {
	*c = *c*6364136223846793005 + 1442695040888963407
	return int(uint64(*c) >> 33 % uint64(n))
}

// rows hands on each row of n numbers below some.
func rows(n, below int, each func([]int)) {
	l := make([]int, n)
	for {
		each(l)
		i := 0
		for i < n && l[i] == below-1 {
			l[i] = 0
			i++
		}
		if i == n {
			return
		}
		l[i]++
	}
}

// The chapter's example.
func TestExample(t *testing.T) {
	f, err := frames.New(8)
	if err != api.OK {
		t.Fatalf("New(8): %d", err)
	}
	if err := f.Turn(2, 2, api.FFree, api.FData); err != api.OK {
		t.Errorf("Turn(2, 2, FFree, FData): %d", err)
	}
	if err := f.Turn(3, 1, api.FData, api.FHeld); err != api.OK {
		t.Errorf("Turn(3, 1, FData, FHeld): %d", err)
	}
	if n := f.Count(api.FData); n != 1 {
		t.Errorf("Count(FData): %d, want 1", n)
	}
	if frame := f.Next(0, api.FHeld); frame != 3 {
		t.Errorf("Next(0, FHeld): %d, want 3", frame)
	}
	if err := f.Turn(3, 1, api.FHeld, api.FTable); err != api.ErrForm {
		t.Errorf("Turn(3, 1, FHeld, FTable): %d, want ErrForm", err)
	}
}

// P16.1: from 8 to 1024 frames, all free.
func TestNew(t *testing.T) {
	for _, n := range append(upTo(-3, 1030), sorts...) {
		f, err := frames.New(n)
		switch {
		case n < 8 || n > 1024:
			if f != nil || err != api.ErrArg {
				t.Errorf("New(%d): %v, %d; want ErrArg", n, f, err)
			}
		case f == nil || err != api.OK:
			t.Errorf("New(%d): %v, %d", n, f, err)
		default:
			x := pair{t, f, newPair(t, n).m}
			x.same()
			if next := f.Next(n-1, api.FFree); next != n-1 {
				t.Errorf("of %d: Next(%d, FFree): %d", n, n-1, next)
			}
		}
	}
}

// P16.2, P16.3: ErrNil comes ahead of all other errors, and nil tells -1, 0, -1, 0.
func TestNil(t *testing.T) {
	var f *frames.Frames
	for _, frame := range sorts {
		for _, n := range []int{math.MinInt, -1, 0, 1, 8, math.MaxInt} {
			for _, is := range []int{-1, 0, 1, 2, 5, 6} {
				if err := f.Turn(frame, n, is, 2); err != api.ErrNil {
					t.Errorf("Turn(%d, %d, %d, 2): %d, want ErrNil", frame, n, is, err)
				}
			}
		}
		if is := f.Is(frame); is != -1 {
			t.Errorf("Is(%d): %d, want -1", frame, is)
		}
		if n := f.Count(frame); n != 0 {
			t.Errorf("Count(%d): %d, want 0", frame, n)
		}
		for _, is := range sorts {
			if next := f.Next(frame, is); next != -1 {
				t.Errorf("Next(%d, %d): %d, want -1", frame, is, next)
			}
		}
	}
	if n := f.Len(); n != 0 {
		t.Errorf("Len: %d, want 0", n)
	}
}

// P16.2: every error, in the order in which they are named, of the frames: free, free, table, data, data, held, away, pool.
func TestTurnErrors(t *testing.T) {
	for _, c := range []struct {
		frame, n, from, to int
		want               api.Errno
	}{
		{0, 1, 0, 1, api.OK}, {0, 2, 0, 5, api.OK}, {2, 1, 1, 0, api.OK}, {3, 2, 2, 4, api.OK}, {4, 1, 2, 5, api.OK}, {5, 1, 4, 2, api.OK}, {6, 1, 5, 2, api.OK}, {7, 1, 3, 0, api.OK},
		{0, 0, 0, 1, api.ErrArg}, {0, -1, 0, 1, api.ErrArg}, {0, math.MinInt, 0, 1, api.ErrArg},
		{0, 1, -1, 1, api.ErrArg}, {0, 1, 6, 1, api.ErrArg}, {0, 1, 0, -1, api.ErrArg}, {0, 1, 0, 6, api.ErrArg}, {0, 1, math.MinInt, 0, api.ErrArg}, {0, 1, 0, math.MaxInt, api.ErrArg},
		{-1, 1, 0, 1, api.ErrRange}, {8, 1, 0, 1, api.ErrRange}, {7, 2, 3, 0, api.ErrRange}, {0, 9, 0, 1, api.ErrRange}, {1, 8, 0, 1, api.ErrRange}, {-1, 2, 0, 1, api.ErrRange}, {-2, 2, 0, 1, api.ErrRange},
		{0, math.MaxInt, 0, 1, api.ErrRange}, {7, math.MaxInt, 0, 1, api.ErrRange}, {math.MaxInt, 1, 0, 1, api.ErrRange}, {math.MaxInt, math.MaxInt, 0, 1, api.ErrRange}, {math.MinInt, math.MaxInt, 0, 1, api.ErrRange},
		{0, 1, 0, 0, api.ErrForm}, {2, 1, 1, 1, api.ErrForm}, {2, 1, 1, 2, api.ErrForm}, {2, 1, 1, 3, api.ErrForm}, {2, 1, 1, 4, api.ErrForm}, {2, 1, 1, 5, api.ErrForm},
		{3, 2, 2, 1, api.ErrForm}, {3, 2, 2, 2, api.ErrForm}, {3, 2, 2, 3, api.ErrForm}, {7, 1, 3, 2, api.ErrForm}, {7, 1, 3, 4, api.ErrForm},
		{5, 1, 4, 1, api.ErrForm}, {5, 1, 4, 3, api.ErrForm}, {5, 1, 4, 5, api.ErrForm}, {6, 1, 5, 4, api.ErrForm}, {6, 1, 5, 5, api.ErrForm},
		{2, 1, 0, 1, api.ErrBusy}, {0, 1, 1, 0, api.ErrBusy}, {1, 2, 0, 2, api.ErrBusy}, {2, 2, 2, 0, api.ErrBusy}, {0, 8, 0, 2, api.ErrBusy}, {5, 2, 4, 2, api.ErrBusy}, {7, 1, 2, 0, api.ErrBusy},
		// each error ahead of those behind it
		{-1, 0, 0, 0, api.ErrArg}, {8, 1, 6, 6, api.ErrArg}, {2, 0, 1, 1, api.ErrArg}, {2, 0, 0, 1, api.ErrArg},
		{8, 1, 0, 0, api.ErrRange}, {7, 2, 1, 1, api.ErrRange}, {1, 8, 2, 0, api.ErrRange}, {-1, 1, 2, 3, api.ErrRange},
		{0, 1, 1, 1, api.ErrForm}, {0, 8, 2, 3, api.ErrForm}, {3, 1, 0, 0, api.ErrForm},
	} {
		x := newPair(t, 8, 0, 0, 1, 2, 2, 4, 5, 3)
		if got := x.turn(c.frame, c.n, c.from, c.to); got != c.want {
			t.Errorf("Turn(%d, %d, %d, %d): %d, want %d", c.frame, c.n, c.from, c.to, got, c.want)
		}
	}
}

// P16.2: what each state may become, of one frame and of many.
func TestMay(t *testing.T) {
	for is := range 6 {
		for from := -1; from <= 6; from++ {
			for to := -1; to <= 6; to++ {
				for _, n := range []int{1, 3, 8} {
					x := newPair(t, 8, is, is, is, is, is, is, is, is)
					x.turn(0, n, from, to)
				}
			}
		}
	}
}

// P16.2, P16.5: every set of frames that are held, every stretch: all of them turn, or none, and no others.
func TestSets(t *testing.T) {
	rows(8, 2, func(row []int) {
		is := make([]int, 8)
		for i := range is {
			is[i] = 2 + 2*row[i]
		}
		for frame := -1; frame <= 8; frame++ {
			for n := 0; n <= 9; n++ {
				x := newPair(t, 8, is...)
				x.turn(frame, n, 4, 2)
			}
		}
	})
}

// P16.3: every row of states of five frames: the next one of each state, from everywhere on.
func TestNext(t *testing.T) {
	for _, n := range []int{8, 9} {
		rows(5, 6, func(row []int) {
			x := newPair(t, n, append([]int{0, row[0]}, row[1:]...)...)
			x.same()
			x.nexts(upTo(-2, n+1)...)
		})
	}
}

// P16.3: the next one of many, which is alone at each place.
func TestNextFar(t *testing.T) {
	for _, n := range []int{8, 100, 1024} {
		x := newPair(t, n)
		for frame := range n {
			x.f.Turn(frame, 1, 0, 3)
			x.m.turn(frame, 1, 0, 3)
			x.nexts(0, frame-1, frame, frame+1, n-1, n)
			x.f.Turn(frame, 1, 3, 0)
			x.m.turn(frame, 1, 3, 0)
		}
		x.same()
	}
}

// P16.2, P16.3: numbers of every sort come in everywhere.
func TestSorts(t *testing.T) {
	for _, size := range []int{8, 1024} {
		x := newPair(t, size, 1, 2, 3, 4, 5)
		for _, frame := range sorts {
			x.nexts(frame)
			if is, want := x.f.Is(frame), x.m.is(frame); is != want {
				t.Errorf("Is(%d): %d, want %d", frame, is, want)
			}
			if n, want := x.f.Count(frame), x.m.count(frame); n != want {
				t.Errorf("Count(%d): %d, want %d", frame, n, want)
			}
			for _, is := range sorts {
				if next, want := x.f.Next(frame, is), x.m.next(frame, is); next != want {
					t.Errorf("Next(%d, %d): %d, want %d", frame, is, next, want)
				}
			}
		}
		x.same()
	}
	for _, a := range sorts {
		for _, b := range sorts {
			x := newPair(t, 8, 1, 2, 3, 4, 5)
			x.turn(a, b, 0, 1)
			x.turn(a, b, 1, 0)
			x.turn(1, 1, a, b)
			x.turn(5, 3, a, b)
			x.turn(a, 1, b, 0)
			x.turn(a, 1, 0, b)
		}
	}
}

// P16.2: of all sizes, stretches up to the last frame, and one beyond it.
func TestEnds(t *testing.T) {
	for n := 8; n <= 1024; n += 1 + n/16 {
		for _, last := range []int{1, 2, 7, n - 1, n} {
			x := newPair(t, n)
			if err := x.turn(n-last, last+1, 0, 1); err != api.ErrRange {
				t.Fatalf("of %d: Turn(%d, %d, 0, 1): %d, want ErrRange", n, n-last, last+1, err)
			}
			if err := x.turn(n-last, last, 0, 1); err != api.OK {
				t.Fatalf("of %d: Turn(%d, %d, 0, 1): %d", n, n-last, last, err)
			}
		}
	}
}

// step does a call of chance, most of them one that may be.
func (x pair) step(c *chance, n int) {
	frame, from, to := c.below(x.m.n), c.below(6), c.below(6)
	if c.below(4) > 0 {
		from = x.f.Is(frame)
		for may[from][to] != 'y' {
			to = c.below(6)
		}
	}
	if c.below(20) == 0 {
		frame, to = c.below(x.m.n+4)-2, c.below(8)-1
	}
	x.turn(frame, c.below(n+1), from, to)
	x.nexts(c.below(x.m.n))
}

// P16.2 to P16.5: long rows of calls, of few frames and of many, of short stretches and of long ones; what turned can be turned back till all are free.
func TestRows(t *testing.T) {
	c := chance(11)
	for _, size := range []int{8, 9, 31, 200, 1024} {
		for _, n := range []int{1, 2, 6, 40} {
			x := newPair(t, size)
			for range 400000 / (size + 40) {
				x.step(&c, n)
			}
			for frame := range size {
				if is := x.f.Is(frame); is != 0 {
					x.turn(frame, 1, is, 0)
				}
			}
			if free := x.f.Count(0); free != size {
				t.Errorf("of %d frames %d are free at last", size, free)
			}
		}
	}
}

// R4: two know nothing of each other, and answer alike what was done alike.
func TestTwo(t *testing.T) {
	x, y := newPair(t, 32), newPair(t, 32)
	c, d := chance(3), chance(3)
	for range 300 {
		x.step(&c, 3)
	}
	y.same()
	if free := y.f.Count(0); free != 32 {
		t.Errorf("%d frames are free, want all 32", free)
	}
	for range 300 {
		y.step(&d, 3)
	}
	x.same()
	y.same()
	for frame := range 32 {
		if is, want := y.f.Is(frame), x.f.Is(frame); is != want {
			t.Errorf("Is(%d): %d and %d", frame, is, want)
		}
	}
	if l, want := told(y.f), told(x.f); !slices.Equal(l, want) {
		t.Errorf("counts: %v and %v", l, want)
	}
}

// told tells all counts.
func told(f *frames.Frames) []int {
	var l []int
	for is := range 6 {
		l = append(l, f.Count(is))
	}
	return l
}
