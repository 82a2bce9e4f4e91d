package pick_test

import (
	"cmp"
	"math"
	"slices"
	"testing"

	"pantile/api"
	"pantile/pick"
)

// Numbers of all sorts: around 0, the ends of what frames there are, and of what a number can be.
var sorts = []int{
	math.MinInt, math.MinInt + 1, math.MinInt + 1023, math.MinInt / 2, -1 << 32, -1025, -1024, -2, -1,
	0, 1, 2, 5, 9, 511, 512, 1000, 1022, 1023, 1024, 1025, 2047, 2048,
	1 << 32, math.MaxInt / 2, math.MaxInt - 1023, math.MaxInt - 1, math.MaxInt,
}

// told is a frame and its worth.
type told struct {
	frame, worth int
}

// model says the chapter's words: a plain list, of which each frame stands there once.
type model []told

// find tells where a frame stands, or -1.
func (m model) find(frame int) int {
	return slices.IndexFunc(m, func(x told) bool { return x.frame == frame })
}

// put says P6.1.
func (m *model) put(frame, worth int) api.Errno {
	if frame < 0 || frame > 1023 {
		return api.ErrRange
	}
	m.drop(frame)
	*m = append(*m, told{frame, worth})
	return api.OK
}

// drop says P6.1.
func (m *model) drop(frame int) api.Errno {
	i := m.find(frame)
	if i < 0 {
		return api.ErrNone
	}
	*m = slices.Delete(*m, i, i+1)
	return api.OK
}

// sorted says P6.4.
func (m model) sorted() []told {
	return slices.SortedFunc(slices.Values(m), func(x, y told) int {
		return cmp.Or(cmp.Compare(x.worth, y.worth), cmp.Compare(x.frame, y.frame))
	})
}

// first says P6.2.
func (m model) first() (told, api.Errno) {
	if len(m) == 0 {
		return told{}, api.ErrNone
	}
	return m.sorted()[0], api.OK
}

// pair is frames by worth, and what they should be.
type pair struct {
	t *testing.T
	p *pick.Pick
	m *model
}

func newPair(t *testing.T, l ...told) pair {
	x := pair{t, pick.New(), &model{}}
	x.all(l...)
	return x
}

// all puts one behind the other.
func (x pair) all(l ...told) {
	x.t.Helper()
	for _, y := range l {
		x.put(y.frame, y.worth)
	}
}

func (x pair) put(frame, worth int) api.Errno {
	x.t.Helper()
	err, want := x.p.Put(frame, worth), x.m.put(frame, worth)
	if err != want {
		x.t.Fatalf("Put(%d, %d): %d, want %d", frame, worth, err, want)
	}
	return err
}

func (x pair) drop(frame int) api.Errno {
	x.t.Helper()
	err, want := x.p.Drop(frame), x.m.drop(frame)
	if err != want {
		x.t.Fatalf("Drop(%d): %d, want %d", frame, err, want)
	}
	return err
}

func (x pair) pop() (told, api.Errno) {
	x.t.Helper()
	want, wantErr := x.m.first()
	x.m.drop(want.frame)
	frame, worth, err := x.p.Pop()
	if got := (told{frame, worth}); got != want || err != wantErr {
		x.t.Fatalf("Pop: %v, %d; want %v, %d", got, err, want, wantErr)
	}
	return want, err
}

// worth asks a frame's worth.
func (x pair) worth(frame int) {
	x.t.Helper()
	want, wantErr := 0, api.ErrNone
	if i := x.m.find(frame); i >= 0 {
		want, wantErr = (*x.m)[i].worth, api.OK
	}
	if got, err := x.p.Worth(frame); got != want || err != wantErr {
		x.t.Fatalf("Worth(%d): %d, %d; want %d, %d", frame, got, err, want, wantErr)
	}
}

// look asks what of all frames is asked, twice: looking changes nothing.
func (x pair) look() {
	x.t.Helper()
	want, wantErr := x.m.first()
	for range 2 {
		frame, worth, err := x.p.First()
		if got := (told{frame, worth}); got != want || err != wantErr {
			x.t.Fatalf("First: %v, %d; want %v, %d", got, err, want, wantErr)
		}
		if got := x.p.Len(); got != len(*x.m) {
			x.t.Fatalf("Len: %d, want %d", got, len(*x.m))
		}
	}
}

// same asks all there is to ask.
func (x pair) same() {
	x.t.Helper()
	x.look()
	for _, y := range *x.m {
		x.worth(y.frame)
	}
	for _, frame := range sorts {
		x.worth(frame)
	}
	x.look()
}

// empty pops all there is, and what is no more there: P6.4.
func (x pair) empty() []told {
	x.t.Helper()
	want := x.m.sorted()
	var l []told
	for {
		y, err := x.pop()
		if err != api.OK {
			break
		}
		x.worth(y.frame)
		l = append(l, y)
		x.look()
	}
	x.pop()
	x.look()
	if !slices.Equal(l, want) {
		x.t.Fatalf("popped: %v; want %v", l, want)
	}
	return l
}

// chance makes numbers in a row that always is the same.
type chance uint64

func (c *chance) below(n int) int {
	*c = *c*6364136223846793005 + 1442695040888963407
	return int(uint64(*c) >> 33 % uint64(n))
}

// mix lays a list in another order.
func (c *chance) mix(l []told) {
	for i := range l {
		j := i + c.below(len(l)-i)
		l[i], l[j] = l[j], l[i]
	}
}

// The chapter's example.
func TestExample(t *testing.T) {
	p := pick.New()
	for _, x := range []told{{5, 9}, {3, 9}, {7, 1}} {
		if err := p.Put(x.frame, x.worth); err != api.OK {
			t.Errorf("Put(%d, %d): %d", x.frame, x.worth, err)
		}
	}
	for _, x := range []told{{7, 1}, {3, 9}} {
		if frame, worth, err := p.Pop(); frame != x.frame || worth != x.worth || err != api.OK {
			t.Errorf("Pop: %d, %d, %d; want %d, %d", frame, worth, err, x.frame, x.worth)
		}
	}
	if err := p.Put(5, 0); err != api.OK {
		t.Errorf("Put(5, 0): %d", err)
	}
	if frame, worth, err := p.First(); frame != 5 || worth != 0 || err != api.OK {
		t.Errorf("First: %d, %d, %d; want 5, 0", frame, worth, err)
	}
	if n := p.Len(); n != 1 {
		t.Errorf("Len: %d, want 1", n)
	}
}

// P6.1: a frame that is there gets its new worth, whether it goes ahead, back, or stays.
func TestPutAgain(t *testing.T) {
	for _, x := range []struct {
		name  string
		again told
		want  []told
	}{
		{"the first goes to the end", told{4, 9}, []told{{2, 3}, {6, 5}, {8, 7}, {4, 9}}},
		{"the first goes between", told{4, 4}, []told{{2, 3}, {4, 4}, {6, 5}, {8, 7}}},
		{"the first stays", told{4, 1}, []told{{4, 1}, {2, 3}, {6, 5}, {8, 7}}},
		{"the first gets less", told{4, math.MinInt}, []told{{4, math.MinInt}, {2, 3}, {6, 5}, {8, 7}}},
		{"the last goes to the front", told{8, 0}, []told{{8, 0}, {4, 1}, {2, 3}, {6, 5}}},
		{"the last goes between", told{8, 4}, []told{{4, 1}, {2, 3}, {8, 4}, {6, 5}}},
		{"the last gets more", told{8, math.MaxInt}, []told{{4, 1}, {2, 3}, {6, 5}, {8, math.MaxInt}}},
		{"as good as the one ahead, and a greater frame", told{8, 5}, []told{{4, 1}, {2, 3}, {6, 5}, {8, 5}}},
		{"as good as one, and a lesser frame", told{2, 5}, []told{{4, 1}, {2, 5}, {6, 5}, {8, 7}}},
		{"as good as the first, and a lesser frame", told{2, 1}, []told{{2, 1}, {4, 1}, {6, 5}, {8, 7}}},
	} {
		p := newPair(t, told{2, 3}, told{8, 7}, told{4, 1}, told{6, 5})
		for range 2 {
			if err := p.put(x.again.frame, x.again.worth); err != api.OK {
				t.Errorf("%s: Put: %d", x.name, err)
			}
			p.same()
		}
		if n := p.p.Len(); n != 4 {
			t.Errorf("%s: Len: %d, want 4", x.name, n)
		}
		if l := p.empty(); !slices.Equal(l, x.want) {
			t.Errorf("%s: %v; want %v", x.name, l, x.want)
		}
	}
}

// P6.1 with numbers of all sorts: a frame is one of 1024, its worth may be any number; where it is none nothing changes.
func TestPutSorts(t *testing.T) {
	x := newPair(t)
	for _, worth := range sorts {
		for _, frame := range sorts {
			want := api.ErrRange
			if frame >= 0 && frame < 1024 {
				want = api.OK
			}
			if err := x.put(frame, worth); err != want {
				t.Errorf("Put(%d, %d): %d, want %d", frame, worth, err, want)
			}
			x.look()
		}
		x.same()
	}
	x.empty()
}

// P6.1: Drop of numbers of all sorts, of what is there, was there, and never was.
func TestDropSorts(t *testing.T) {
	x := newPair(t)
	for _, frame := range sorts {
		if err := x.drop(frame); err != api.ErrNone {
			t.Errorf("Drop(%d) of nothing: %d, want ErrNone", frame, err)
		}
	}
	x.same()
	for frame := range 1024 {
		x.put(frame, frame%7)
	}
	for _, frame := range sorts {
		want := api.ErrNone
		if frame >= 0 && frame < 1024 {
			want = api.OK
		}
		for range 2 {
			if err := x.drop(frame); err != want {
				t.Errorf("Drop(%d): %d, want %d", frame, err, want)
			}
			x.look()
			want = api.ErrNone
		}
	}
	x.same()
	x.put(1023, -1)
	x.empty()
}

// P6.1: each place that a frame may have is dropped, of each number of frames up to 20, and the others still come rising.
func TestDropEach(t *testing.T) {
	c := chance(5)
	for n := 1; n <= 20; n++ {
		for gone := range n {
			x := newPair(t)
			for range n {
				x.put(len(*x.m), c.below(5))
			}
			x.drop(gone)
			x.same()
			x.empty()
		}
	}
}

// P6.2: of those of the least worth the least frame, also where worths lie so far apart that no number says how far.
func TestFirst(t *testing.T) {
	for _, x := range []struct {
		puts []told
		want told
	}{
		{[]told{{0, 0}}, told{0, 0}},
		{[]told{{1023, 7}}, told{1023, 7}},
		{[]told{{9, 2}, {1, 3}}, told{9, 2}},
		{[]told{{9, 3}, {1, 3}, {4, 3}}, told{1, 3}},
		{[]told{{0, 3}, {1023, 2}, {512, 2}}, told{512, 2}},
		{[]told{{0, 0}, {1023, -1}}, told{1023, -1}},
		{[]told{{0, math.MaxInt}, {1, math.MinInt}}, told{1, math.MinInt}},
		{[]told{{0, 1}, {1, math.MinInt}}, told{1, math.MinInt}},
		{[]told{{0, math.MaxInt}, {1, -1}}, told{1, -1}},
		{[]told{{3, math.MinInt}, {2, math.MinInt}}, told{2, math.MinInt}},
		{[]told{{3, math.MaxInt}, {2, math.MaxInt}}, told{2, math.MaxInt}},
		{[]told{{0, math.MinInt + 1}, {1, math.MinInt}, {2, math.MaxInt}}, told{1, math.MinInt}},
		{[]told{{0, 1 << 32}, {1, 1}}, told{1, 1}},
	} {
		for range 2 {
			p := newPair(t, x.puts...)
			p.same()
			if frame, worth, err := p.p.First(); frame != x.want.frame || worth != x.want.worth || err != api.OK {
				t.Errorf("First of %v: %d, %d, %d; want %v", x.puts, frame, worth, err, x.want)
			}
			if got := p.empty(); got[0] != x.want {
				t.Errorf("Pop of %v: %v; want %v", x.puts, got[0], x.want)
			}
			slices.Reverse(x.puts)
		}
	}
}

// P6.2 and P6.3 of one that has nothing: not yet, or no more.
func TestNone(t *testing.T) {
	x := newPair(t)
	x.same()
	x.empty()
	x.put(4, 4)
	x.pop()
	x.same()
	x.put(4, 4)
	x.drop(4)
	x.same()
	x.put(1024, 4)
	x.same()
	if frame, worth, err := x.p.First(); frame != 0 || worth != 0 || err != api.ErrNone {
		t.Errorf("First: %d, %d, %d; want ErrNone", frame, worth, err)
	}
	if frame, worth, err := x.p.Pop(); frame != 0 || worth != 0 || err != api.ErrNone {
		t.Errorf("Pop: %d, %d, %d; want ErrNone", frame, worth, err)
	}
	if worth, err := x.p.Worth(4); worth != 0 || err != api.ErrNone {
		t.Errorf("Worth: %d, %d; want ErrNone", worth, err)
	}
	if n := x.p.Len(); n != 0 {
		t.Errorf("Len: %d, want 0", n)
	}
}

// P6.2: Worth of each frame, by the last worth that was put.
func TestWorth(t *testing.T) {
	x := newPair(t)
	for round := range 3 {
		for frame := range 1024 {
			x.put(frame, sorts[(frame+round)%len(sorts)])
		}
		for frame := -2; frame < 1026; frame++ {
			x.worth(frame)
		}
		x.same()
	}
}

// P6.4 and P6.5: all 1024 frames, with worths of all shapes, in several orders.
func TestRising(t *testing.T) {
	for name, worth := range map[string]func(frame int) int{
		"one":     func(int) int { return 3 },
		"rising":  func(frame int) int { return frame - 500 },
		"falling": func(frame int) int { return -frame },
		"in rows": func(frame int) int { return frame % 16 },
		"far":     func(frame int) int { return sorts[frame%len(sorts)] },
	} {
		c := chance(1)
		l := make([]told, 1024)
		for frame := range l {
			l[frame] = told{frame, worth(frame)}
		}
		var want []told
		for n := range 4 {
			x := newPair(t, l...)
			if got := x.p.Len(); got != 1024 {
				t.Fatalf("%s: Len: %d", name, got)
			}
			got := make([]told, 1024)
			for i := range got {
				frame, worth, err := x.p.Pop()
				if err != api.OK {
					t.Fatalf("%s: the Pop %d: %d", name, i, err)
				}
				got[i] = told{frame, worth}
			}
			if _, _, err := x.p.Pop(); err != api.ErrNone || x.p.Len() != 0 {
				t.Fatalf("%s: behind the last one: %d, %d", name, err, x.p.Len())
			}
			if n == 0 {
				want = x.m.sorted()
			}
			if !slices.Equal(got, want) {
				t.Fatalf("%s: in the order %d: %v; want %v", name, n, got, want)
			}
			slices.Reverse(l)
			if n > 0 {
				c.mix(l)
			}
		}
	}
}

// P6.5: six frames in each order, some of one worth, some put ahead with others, some that are dropped.
func TestEveryOrder(t *testing.T) {
	l := []told{{0, 2}, {1, 1}, {2, 2}, {3, 0}, {4, 1}, {5, 2}}
	want := []told{{3, 0}, {1, 1}, {4, 1}, {0, 2}, {2, 2}, {5, 2}}
	orders(l, 0, func(l []told) {
		if got := newPair(t, l...).empty(); !slices.Equal(got, want) {
			t.Fatalf("%v: %v; want %v", l, got, want)
		}
		x := newPair(t, told{9, 1}, told{4, 7}, told{3, 3})
		x.all(l[:3]...)
		x.drop(9)
		x.all(l[3:]...)
		if got := x.empty(); !slices.Equal(got, want) {
			t.Fatalf("%v, with others: %v; want %v", l, got, want)
		}
	})
}

// orders calls with a list in each order of what lies from a place on.
func orders(l []told, from int, call func(l []told)) {
	if from == len(l) {
		call(l)
		return
	}
	for i := from; i < len(l); i++ {
		l[from], l[i] = l[i], l[from]
		orders(l, from+1, call)
		l[from], l[i] = l[i], l[from]
	}
}

// P6.1 to P6.4: each row of five calls on three frames of two worths.
func TestEveryRow(t *testing.T) {
	const calls, length = 10, 5
	rows := 1
	for range length {
		rows *= calls
	}
	for row := range rows {
		x := newPair(t)
		for n := row; n > 0; n /= calls {
			switch call := n % calls; {
			case call < 6:
				x.put(call/2, call%2)
			case call < 9:
				x.drop(call - 6)
			default:
				x.pop()
			}
		}
		x.look()
		for frame := range 3 {
			x.worth(frame)
		}
		x.empty()
	}
}

// P6.1 to P6.5 in a long row of calls of all sorts.
func TestLongRow(t *testing.T) {
	for n, frames := range []int{1, 2, 3, 7, 16, 33, 100, 1024} {
		x, c := newPair(t), chance(n)
		for i := range 4000 {
			frame := c.below(frames+4) - 2
			switch c.below(8) {
			case 0:
				x.pop()
			case 1, 2:
				x.drop(frame)
			case 3:
				x.put(frame, sorts[c.below(len(sorts))])
			default:
				x.put(frame, c.below(frames)/2)
			}
			if i%16 == 0 {
				x.same()
			}
		}
		x.same()
		x.empty()
	}
}

// P6.1 to P6.3 of a nil one: ErrNil comes first.
func TestNil(t *testing.T) {
	var p *pick.Pick
	for _, frame := range sorts {
		for _, worth := range sorts {
			if err := p.Put(frame, worth); err != api.ErrNil {
				t.Errorf("Put(%d, %d) of nil: %d", frame, worth, err)
			}
		}
		if err := p.Drop(frame); err != api.ErrNil {
			t.Errorf("Drop(%d) of nil: %d", frame, err)
		}
		if worth, err := p.Worth(frame); worth != 0 || err != api.ErrNil {
			t.Errorf("Worth(%d) of nil: %d, %d", frame, worth, err)
		}
	}
	if frame, worth, err := p.First(); frame != 0 || worth != 0 || err != api.ErrNil {
		t.Errorf("First of nil: %d, %d, %d", frame, worth, err)
	}
	if frame, worth, err := p.Pop(); frame != 0 || worth != 0 || err != api.ErrNil {
		t.Errorf("Pop of nil: %d, %d, %d", frame, worth, err)
	}
	if n := p.Len(); n != 0 {
		t.Errorf("Len of nil: %d", n)
	}
}

// R4: two that were made alike do not know of one another.
func TestApart(t *testing.T) {
	x, y := newPair(t, told{1, 1}, told{2, 2}), newPair(t, told{1, 1}, told{2, 2})
	x.put(1, 5)
	x.put(3, 0)
	y.same()
	y.drop(2)
	x.same()
	x.empty()
	y.same()
	y.empty()
}
