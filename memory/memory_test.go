package memory_test

import (
	"math"
	"slices"
	"testing"

	"pantile/api"
	"pantile/kinds"
	"pantile/memory"
)

// Numbers of all sorts: around 0, states, kinds and orders, the ends of few frames and of many, and what a number can be.
var sorts = []int{
	math.MinInt, math.MinInt + 1, math.MinInt + 8, math.MinInt / 2, -1 << 32, -1025, -1024, -256, -16, -9, -8, -7, -2, -1,
	0, 1, 2, 3, 4, 5, 6, 7, 8, 9, 15, 16, 17, 63, 64, 128, 255, 256, 257, 1015, 1016, 1022, 1023, 1024, 1025,
	1 << 16, 1 << 32, 1<<32 + 1, 1<<32 + 8, math.MaxInt / 2, math.MaxInt - 1023, math.MaxInt - 8, math.MaxInt - 7, math.MaxInt - 1, math.MaxInt,
}

// model is of each frame what it is and its words; which of those that are FFree is taken, and what kind it has, its twin tells.
type model struct {
	n, mark int
	is      []int
	words   []uint64
	twin    *kinds.Kinds
}

func newModel(n, mark int) *model {
	twin, _ := kinds.New(n)
	return &model{n: n, mark: mark, is: make([]int, n), words: make([]uint64, 8*n), twin: twin}
}

// spare says the chapter's word.
func (m *model) spare() int {
	n := -m.mark
	for frame, is := range m.is {
		if is == 0 && m.twin.Kind(frame) != 3 {
			n++
		}
	}
	return max(n, 0)
}

// count says P17.5.
func (m *model) count(is int) int {
	n := 0
	for _, x := range m.is {
		if x == is {
			n++
		}
	}
	return n
}

// give says what becomes of a block that is given.
func (m *model) give(frame, order, is int) {
	for i := frame; i < frame+1<<order; i++ {
		m.is[i] = is
		for word := range 8 {
			m.words[8*i+word] = 0
		}
	}
}

// block says P17.2.
func (m *model) block(order, kind, is int) (int, api.Errno) {
	if order < 0 || order > 8 || kind < 0 || kind > 2 || is < 1 || is > 5 {
		return 0, api.ErrArg
	}
	if m.spare() < 1<<order {
		return 0, api.ErrMem
	}
	frame, err := m.twin.Take(order, kind)
	if err == api.OK {
		m.give(frame, order, is)
	}
	return frame, err
}

// at says P17.3.
func (m *model) at(frame, order, is int) api.Errno {
	if is < 1 || is > 5 {
		return api.ErrArg
	}
	err := m.twin.TakeAt(frame, order)
	if err == api.OK {
		m.give(frame, order, is)
	}
	return err
}

// drop says P17.3.
func (m *model) drop(frame, order int) api.Errno {
	err := m.twin.Give(frame, order)
	if err == api.OK {
		for i := range 1 << order {
			m.is[frame+i] = 0
		}
	}
	return err
}

// turn says P17.4: chapter 16 lets what is not free become so little that all of it stands here.
func (m *model) turn(frame, n, from, to int) api.Errno {
	switch {
	case n < 1 || from < 1 || from > 5 || to < 1 || to > 5:
		return api.ErrArg
	case frame < 0 || frame >= m.n || n > m.n || frame+n > m.n:
		return api.ErrRange
	case !slices.Contains([][2]int{{2, 4}, {2, 5}, {4, 2}, {5, 2}}, [2]int{from, to}):
		return api.ErrForm
	}
	for i := range n {
		if m.is[frame+i] != from {
			return api.ErrBusy
		}
	}
	for i := range n {
		m.is[frame+i] = to
	}
	return api.OK
}

// pair is a memory, and what it should be.
type pair struct {
	t *testing.T
	m *memory.Memory
	w *model
}

// newPair makes n frames, of which the first ones are so, and writes all over them.
func newPair(t *testing.T, n, mark int, is ...int) pair {
	t.Helper()
	m, err := memory.New(n, mark)
	if m == nil || err != api.OK {
		t.Fatalf("New(%d, %d): %v, %d", n, mark, m, err)
	}
	x := pair{t, m, newModel(n, mark)}
	for frame, is := range is {
		if is != 0 {
			x.at(frame, 0, is)
		}
	}
	x.fill(0, n)
	return x
}

// fill writes into each word of n frames.
func (x pair) fill(frame, n int) {
	x.t.Helper()
	for word := 8 * frame; word < 8*(frame+n); word++ {
		w := uint64(word+1) * 0x9e3779b97f4a7c15
		if err := x.m.Ram().Store(8*word, w); err != api.OK {
			x.t.Fatalf("Store(%d): %d", 8*word, err)
		}
		x.w.words[word] = w
	}
}

// call holds what a call answered against what the model did.
func (x pair) call(name string, args []int, got int, err api.Errno, want int, wantErr api.Errno) (int, api.Errno) {
	x.t.Helper()
	if got != want || err != wantErr {
		x.t.Fatalf("%s%v: %d, %d; want %d, %d", name, args, got, err, want, wantErr)
	}
	x.same()
	return got, err
}

func (x pair) block(order, kind, is int) (int, api.Errno) {
	x.t.Helper()
	want, wantErr := x.w.block(order, kind, is)
	got, err := x.m.Block(order, kind, is)
	return x.call("Block", []int{order, kind, is}, got, err, want, wantErr)
}

func (x pair) one(kind, is int) (int, api.Errno) {
	x.t.Helper()
	want, wantErr := x.w.block(0, kind, is)
	got, err := x.m.One(kind, is)
	return x.call("One", []int{kind, is}, got, err, want, wantErr)
}

func (x pair) at(frame, order, is int) api.Errno {
	x.t.Helper()
	_, err := x.call("At", []int{frame, order, is}, 0, x.m.At(frame, order, is), 0, x.w.at(frame, order, is))
	return err
}

func (x pair) drop(frame, order int) api.Errno {
	x.t.Helper()
	_, err := x.call("Drop", []int{frame, order}, 0, x.m.Drop(frame, order), 0, x.w.drop(frame, order))
	return err
}

func (x pair) turn(frame, n, from, to int) api.Errno {
	x.t.Helper()
	_, err := x.call("Turn", []int{frame, n, from, to}, 0, x.m.Turn(frame, n, from, to), 0, x.w.turn(frame, n, from, to))
	return err
}

func (x pair) set(section, kind int) api.Errno {
	x.t.Helper()
	_, err := x.call("Set", []int{section, kind}, 0, x.m.Set(section, kind), 0, x.w.twin.Set(section, kind))
	return err
}

// same holds all that is told against the model's (P17.5), and sees that it is right (P17.6).
func (x pair) same() {
	x.t.Helper()
	if !x.m.Right() {
		x.t.Fatal("it is not right")
	}
	for frame := -1; frame <= x.w.n; frame++ {
		want := -1
		if frame >= 0 && frame < x.w.n {
			want = x.w.is[frame]
		}
		if is := x.m.Is(frame); is != want {
			x.t.Fatalf("Is(%d): %d, want %d", frame, is, want)
		}
		if kind, want := x.m.Kind(frame), x.w.twin.Kind(frame); kind != want {
			x.t.Fatalf("Kind(%d): %d, want %d", frame, kind, want)
		}
	}
	for is := -1; is <= 6; is++ {
		if n, want := x.m.Count(is), x.w.count(is); n != want {
			x.t.Fatalf("Count(%d): %d, want %d", is, n, want)
		}
	}
	if n, want := x.m.Free(), x.w.count(0); n != want {
		x.t.Fatalf("Free: %d, want %d", n, want)
	}
	if n, want := x.m.Spare(), x.w.spare(); n != want {
		x.t.Fatalf("Spare: %d, want %d", n, want)
	}
	if l, want := x.m.Blocks(), x.w.twin.Blocks(); !slices.Equal(l, want) {
		x.t.Fatalf("Blocks: %v, want %v", l, want)
	}
	x.sameWords()
}

// sameWords holds all bytes against the model's.
func (x pair) sameWords() {
	x.t.Helper()
	r := x.m.Ram()
	if r.Frames() != x.w.n {
		x.t.Fatalf("%d frames of bytes, want %d", r.Frames(), x.w.n)
	}
	for word, want := range x.w.words {
		if w, err := r.Load(8 * word); w != want || err != api.OK {
			x.t.Fatalf("the word %d of the frame %d: %d, %d; want %d", word%8, word/8, w, err, want)
		}
	}
}

// upTo tells the numbers from one up to another.
func upTo(from, to int) []int {
	var l []int
	for i := from; i <= to; i++ {
		l = append(l, i)
	}
	return l
}

// chance makes numbers in a row that always is the same.
type chance uint64

func (c *chance) below(n int) int {
	*c = *c*6364136223846793005 + 1442695040888963407
	return int(uint64(*c) >> 33 % uint64(n))
}

// rows hands on each row of n numbers below some.
func rows(n, below int, each func([]int)) {
	l := make([]int, n)
	for {
		each(l)
		i := 0
		for i < n && l[i] == below-1 {
			l[i] = 0
			i++
		}
		if i == n {
			return
		}
		l[i]++
	}
}

// The chapter's example.
func TestExample(t *testing.T) {
	m, err := memory.New(16, 2)
	if err != api.OK {
		t.Fatalf("New(16, 2): %d", err)
	}
	if n := m.Spare(); n != 14 {
		t.Errorf("Spare: %d, want 14", n)
	}
	if frame, err := m.Block(3, api.Movable, api.FData); frame != 0 || err != api.OK {
		t.Errorf("Block(3, Movable, FData): %d, %d; want 0", frame, err)
	}
	if n := m.Spare(); n != 6 {
		t.Errorf("Spare: %d, want 6", n)
	}
	for kind := range 3 {
		if frame, err := m.Block(3, kind, api.FData); frame != 0 || err != api.ErrMem {
			t.Errorf("Block(3, %d, FData): %d, %d; want ErrMem", kind, frame, err)
		}
	}
	if frame, err := m.One(api.Unmovable, api.FTable); frame != 8 || err != api.OK {
		t.Errorf("One(Unmovable, FTable): %d, %d; want 8", frame, err)
	}
}

// P17.1: from 8 to 1024 frames and a mark up to all of them: all are free and movable, all bytes are 0.
func TestNew(t *testing.T) {
	for _, n := range append(upTo(-3, 1030), sorts...) {
		for _, mark := range []int{math.MinInt, -1, 0, 1, n / 2, n - 1, n, n + 1, 1024, math.MaxInt} {
			m, err := memory.New(n, mark)
			switch {
			case n < 8 || n > 1024 || mark < 0 || mark > n:
				if m != nil || err != api.ErrArg {
					t.Errorf("New(%d, %d): %v, %d; want ErrArg", n, mark, m, err)
				}
			case m == nil || err != api.OK:
				t.Errorf("New(%d, %d): %v, %d", n, mark, m, err)
			default:
				if spare := m.Spare(); spare != n-mark {
					t.Errorf("New(%d, %d): %d are spare", n, mark, spare)
				}
				if mark == 1 || n < 20 {
					pair{t, m, newModel(n, mark)}.same()
				}
			}
		}
	}
	for _, n := range sorts {
		for _, mark := range sorts {
			m, err := memory.New(n, mark)
			if ok := n >= 8 && n <= 1024 && mark >= 0 && mark <= n; (m != nil) != ok || (err == api.OK) != ok || !ok && err != api.ErrArg {
				t.Errorf("New(%d, %d): %v, %d", n, mark, m, err)
			}
		}
	}
}

// P17.2 to P17.5: ErrNil comes ahead of all other errors, and nil tells nothing.
func TestNil(t *testing.T) {
	var m *memory.Memory
	for _, a := range sorts {
		for _, b := range []int{math.MinInt, -1, 0, 1, 2, 3, 8, 9, math.MaxInt} {
			for _, c := range []int{-1, 0, 1, 5, 6} {
				if frame, err := m.Block(a, b, c); frame != 0 || err != api.ErrNil {
					t.Errorf("Block(%d, %d, %d): %d, %d; want ErrNil", a, b, c, frame, err)
				}
				if err := m.At(a, b, c); err != api.ErrNil {
					t.Errorf("At(%d, %d, %d): %d, want ErrNil", a, b, c, err)
				}
				if err := m.Turn(a, b, c, 0); err != api.ErrNil {
					t.Errorf("Turn(%d, %d, %d, 0): %d, want ErrNil", a, b, c, err)
				}
			}
			if frame, err := m.One(a, b); frame != 0 || err != api.ErrNil {
				t.Errorf("One(%d, %d): %d, %d; want ErrNil", a, b, frame, err)
			}
			if err := m.Drop(a, b); err != api.ErrNil {
				t.Errorf("Drop(%d, %d): %d, want ErrNil", a, b, err)
			}
			if err := m.Set(a, b); err != api.ErrNil {
				t.Errorf("Set(%d, %d): %d, want ErrNil", a, b, err)
			}
		}
		if m.Is(a) != -1 || m.Kind(a) != -1 || m.Count(a) != 0 {
			t.Errorf("of %d: Is %d, Kind %d, Count %d", a, m.Is(a), m.Kind(a), m.Count(a))
		}
	}
	if m.Ram() != nil || m.Spare() != 0 || m.Free() != 0 || len(m.Blocks()) != 0 || m.Right() {
		t.Errorf("Ram %v, Spare %d, Free %d, Blocks %v, Right %v", m.Ram(), m.Spare(), m.Free(), m.Blocks(), m.Right())
	}
}

// P17.2: every error, in the order in which they are named, of 16 frames above a mark of 4; the last ones are busy, so that 8 are spare.
func TestBlockErrors(t *testing.T) {
	busy := []int{0, 0, 0, 0, 0, 0, 0, 0, 0, 0, 0, 0, 2, 2, 2, 2}
	for _, c := range []struct {
		order, kind, is int
		want            api.Errno
	}{
		{0, 0, 1, api.OK}, {0, 2, 5, api.OK}, {3, 1, 2, api.OK}, {2, 0, 3, api.OK}, {1, 2, 4, api.OK},
		{-1, 1, 2, api.ErrArg}, {9, 1, 2, api.ErrArg}, {64, 1, 2, api.ErrArg}, {math.MinInt, 1, 2, api.ErrArg}, {math.MaxInt, 1, 2, api.ErrArg},
		{0, -1, 2, api.ErrArg}, {0, 3, 2, api.ErrArg}, {0, 4, 2, api.ErrArg}, {0, math.MinInt, 2, api.ErrArg}, {0, math.MaxInt, 2, api.ErrArg},
		{0, 1, 0, api.ErrArg}, {0, 1, -1, api.ErrArg}, {0, 1, 6, api.ErrArg}, {0, 1, math.MinInt, api.ErrArg}, {0, 1, math.MaxInt, api.ErrArg},
		{4, 1, 2, api.ErrMem}, {5, 0, 1, api.ErrMem}, {8, 2, 5, api.ErrMem},
		// ErrArg ahead of ErrMem
		{8, 3, 2, api.ErrArg}, {4, -1, 2, api.ErrArg}, {4, 1, 0, api.ErrArg}, {8, 1, 6, api.ErrArg},
	} {
		x := newPair(t, 16, 4, busy...)
		if _, err := x.block(c.order, c.kind, c.is); err != c.want {
			t.Errorf("Block(%d, %d, %d): %d, want %d", c.order, c.kind, c.is, err, c.want)
		}
		if c.order == 0 {
			x = newPair(t, 16, 4, busy...)
			if _, err := x.one(c.kind, c.is); err != c.want {
				t.Errorf("One(%d, %d): %d, want %d", c.kind, c.is, err, c.want)
			}
		}
	}
}

// P17.2: enough is spare, but not together: kinds.Take's error; One has it all the same.
func TestApartFrames(t *testing.T) {
	x := newPair(t, 16, 0, 2, 0, 2, 0, 2, 0, 2, 0, 2, 0, 2, 0, 2, 0, 2, 0)
	for order := 1; order <= 3; order++ {
		if _, err := x.block(order, api.Movable, api.FData); err != api.ErrMem {
			t.Errorf("Block(%d) of frames apart: %d, want ErrMem", order, err)
		}
	}
	if frame, err := x.one(api.Movable, api.FData); frame != 1 || err != api.OK {
		t.Errorf("One of frames apart: %d, %d; want 1", frame, err)
	}
}

// P17.2, P17.5: each mark, each set of isolated sections, each of the blocks that can be asked, up to the mark and beyond it.
func TestMarks(t *testing.T) {
	for _, n := range []int{8, 21, 32} {
		for mark := 0; mark <= n; mark++ {
			rows((n+7)/8, 2, func(isolated []int) {
				for order := 0; order <= 6; order++ {
					x := newPair(t, n, mark)
					for section, is := range isolated {
						x.set(section, api.Movable+2*is)
					}
					for kind := range 3 {
						x.block(order, kind, api.FData)
						x.one(kind, api.FTable)
					}
				}
			})
		}
	}
}

// P17.2: written out, what is spare and what is not: the mark, and what is isolated, stay.
func TestSpare(t *testing.T) {
	for _, c := range []struct{ n, mark, isolated, busy, spare int }{
		{16, 0, 0, 0, 16}, {16, 16, 0, 0, 0}, {16, 15, 0, 0, 1}, {16, 3, 1, 0, 5}, {16, 8, 1, 0, 0}, {16, 9, 1, 0, 0}, {16, 0, 2, 0, 0},
		{16, 0, 1, 8, 0}, {16, 0, 1, 3, 5}, {16, 5, 1, 3, 0}, {16, 6, 1, 3, 0}, {16, 4, 1, 3, 1}, {20, 2, 1, 1, 13}, {24, 10, 2, 0, 0}, {24, 10, 1, 2, 4},
	} {
		x := newPair(t, c.n, c.mark)
		for frame := range c.busy {
			x.at(frame, 0, api.FData)
		}
		sections := (c.n + 7) / 8
		for i := range c.isolated {
			x.set(sections-1-i, api.Isolate)
		}
		if spare := x.m.Spare(); spare != c.spare {
			t.Errorf("%+v: %d are spare", c, spare)
		}
		if free := x.m.Free(); free != c.n-c.busy {
			t.Errorf("%+v: %d are free", c, free)
		}
	}
}

// P17.7, P17.6: frames are given one by one as long as any is spare, and no longer, of whatever kind.
func TestAll(t *testing.T) {
	c := chance(5)
	for _, n := range []int{8, 9, 16, 31, 64, 100, 256} {
		for range 12 {
			x := newPair(t, n, c.below(n+1)*c.below(2))
			for section := range (n + 7) / 8 {
				x.set(section, c.below(4))
			}
			for frame := range n {
				if c.below(4) == 0 {
					x.at(frame, 0, api.FPool)
				}
			}
			for spare := x.m.Spare(); spare > 0; spare-- {
				if _, err := x.one(c.below(3), 1+c.below(5)); err != api.OK {
					t.Fatalf("%d are spare, but One has none: %d", spare, err)
				}
			}
			if _, err := x.one(c.below(3), api.FData); err != api.ErrMem {
				t.Fatalf("nothing is spare, but One: %d", err)
			}
		}
	}
}

// P17.3: each block of each order, so: its frames are cleared, and no others; the mark and isolated sections play no part; it goes back.
func TestAt(t *testing.T) {
	for _, n := range []int{8, 13, 24} {
		for frame := -2; frame <= n+1; frame++ {
			for order := -1; order <= 9; order++ {
				for is := -1; is <= 6; is++ {
					x := newPair(t, n, n)
					x.set(0, api.Isolate)
					if x.at(frame, order, is) == api.OK {
						x.at(frame, 0, is)
						x.fill(frame, 1<<order)
						x.drop(frame, order)
						x.drop(frame, order)
						x.at(frame, order, is)
					}
				}
			}
		}
	}
}

// P17.3: every error of At and Drop, in the order in which they are named, of the frames: free, table, data, pool, held, away, free, free.
func TestAtErrors(t *testing.T) {
	for _, c := range []struct {
		frame, order, is int
		at, drop         api.Errno
	}{
		{0, 0, 2, api.OK, api.ErrBusy}, {6, 1, 1, api.OK, api.ErrBusy}, {7, 0, 5, api.OK, api.ErrBusy},
		{1, 0, 2, api.ErrBusy, api.OK}, {2, 1, 2, api.ErrBusy, api.OK}, {4, 1, 3, api.ErrBusy, api.OK}, {5, 0, 4, api.ErrBusy, api.OK},
		{0, 1, 2, api.ErrBusy, api.ErrBusy}, {4, 2, 2, api.ErrBusy, api.ErrBusy}, {0, 3, 2, api.ErrBusy, api.ErrBusy},
		{0, -1, 2, api.ErrArg, api.ErrArg}, {0, 9, 2, api.ErrArg, api.ErrArg}, {1, 1, 2, api.ErrArg, api.ErrArg}, {-1, 1, 2, api.ErrArg, api.ErrArg}, {9, 1, 2, api.ErrArg, api.ErrArg},
		{-1, 0, 2, api.ErrRange, api.ErrRange}, {8, 0, 2, api.ErrRange, api.ErrRange}, {8, 3, 2, api.ErrRange, api.ErrRange}, {0, 4, 2, api.ErrRange, api.ErrRange}, {-8, 3, 2, api.ErrRange, api.ErrRange},
		{0, 0, 0, api.ErrArg, api.ErrBusy}, {0, 0, 6, api.ErrArg, api.ErrBusy}, {0, 0, -1, api.ErrArg, api.ErrBusy}, {0, 0, math.MaxInt, api.ErrArg, api.ErrBusy}, {0, 0, math.MinInt, api.ErrArg, api.ErrBusy},
		// ErrArg ahead of ErrRange and ErrBusy
		{8, 0, 0, api.ErrArg, api.ErrRange}, {1, 0, 0, api.ErrArg, api.OK}, {-1, 0, 6, api.ErrArg, api.ErrRange}, {math.MaxInt, 1, 2, api.ErrArg, api.ErrArg},
	} {
		is := []int{0, 1, 2, 3, 4, 5, 0, 0}
		if err := newPair(t, 8, 0, is...).at(c.frame, c.order, c.is); err != c.at {
			t.Errorf("At(%d, %d, %d): %d, want %d", c.frame, c.order, c.is, err, c.at)
		}
		if err := newPair(t, 8, 0, is...).drop(c.frame, c.order); err != c.drop {
			t.Errorf("Drop(%d, %d): %d, want %d", c.frame, c.order, err, c.drop)
		}
	}
}

// P17.3: each row of states of four frames, in the middle of others, goes back in blocks of every order, or does not; what is around it stays.
func TestDrop(t *testing.T) {
	rows(4, 6, func(row []int) {
		for order := range 4 {
			for frame := 8 - 1<<order; frame <= 16; frame += 1 << order {
				x := newPair(t, 16, 3, slices.Concat([]int{1, 2, 3, 4, 5, 2, 2, 3}, row, []int{1, 0, 5, 2})...)
				x.drop(frame, order)
			}
		}
	})
}

// P17.3: whole blocks of every order go back, whatever their frames have become.
func TestDropGreat(t *testing.T) {
	for order := 0; order <= 8; order++ {
		x := newPair(t, 1024, 0)
		frame, err := x.block(order, api.Reclaim, api.FData)
		if err != api.OK {
			t.Fatalf("Block(%d): %d", order, err)
		}
		x.turn(frame, (1<<order+1)/2, api.FData, api.FHeld)
		x.turn(frame+1<<order-1, 1, x.m.Is(frame+1<<order-1), api.FAway)
		if err := x.drop(frame, order); err != api.OK {
			t.Errorf("Drop(%d, %d): %d", frame, order, err)
		}
		if n := x.m.Free(); n != 1024 {
			t.Errorf("behind Drop(%d, %d) %d are free", frame, order, n)
		}
	}
}

// P17.4: every state to every other, of stretches of all sorts of frames.
func TestTurn(t *testing.T) {
	for from := -1; from <= 6; from++ {
		for to := -1; to <= 6; to++ {
			for is := range 6 {
				for _, n := range []int{-1, 0, 1, 3, 8, 9} {
					x := newPair(t, 8, 0, is, is, is, is, is, is, is, is)
					x.turn(0, n, from, to)
					y := newPair(t, 8, 0, 0, 1, 2, 3, 4, 5, 2, is)
					y.turn(6, n, from, to)
				}
			}
		}
	}
}

// P17.4: every error, in the order in which they are named, of the frames: free, table, data, data, pool, held, away, free.
func TestTurnErrors(t *testing.T) {
	for _, c := range []struct {
		frame, n, from, to int
		want               api.Errno
	}{
		{2, 2, 2, 4, api.OK}, {3, 1, 2, 5, api.OK}, {5, 1, 4, 2, api.OK}, {6, 1, 5, 2, api.OK},
		{0, 1, 0, 2, api.ErrArg}, {1, 1, 1, 0, api.ErrArg}, {2, 1, 2, 0, api.ErrArg}, {4, 1, 3, 0, api.ErrArg}, {0, 1, 0, 0, api.ErrArg}, {7, 1, 0, 1, api.ErrArg},
		{2, 0, 2, 4, api.ErrArg}, {2, -1, 2, 4, api.ErrArg}, {2, 1, 6, 4, api.ErrArg}, {2, 1, 2, -1, api.ErrArg},
		{-1, 1, 2, 4, api.ErrRange}, {8, 1, 2, 4, api.ErrRange}, {2, 7, 2, 4, api.ErrRange}, {2, math.MaxInt, 2, 4, api.ErrRange}, {math.MaxInt, math.MaxInt, 2, 4, api.ErrRange},
		{1, 1, 1, 2, api.ErrForm}, {2, 1, 2, 2, api.ErrForm}, {2, 1, 2, 3, api.ErrForm}, {5, 1, 4, 5, api.ErrForm}, {6, 1, 5, 4, api.ErrForm}, {4, 1, 3, 2, api.ErrForm},
		{2, 1, 4, 2, api.ErrBusy}, {2, 3, 2, 4, api.ErrBusy}, {0, 1, 2, 4, api.ErrBusy}, {0, 8, 2, 5, api.ErrBusy},
		// each error ahead of those behind it
		{8, 1, 2, 0, api.ErrArg}, {-1, 1, 0, 2, api.ErrArg}, {1, 1, 2, 0, api.ErrArg}, {8, 1, 2, 3, api.ErrRange}, {0, 1, 2, 3, api.ErrForm},
	} {
		x := newPair(t, 8, 0, 0, 1, 2, 2, 3, 4, 5, 0)
		if err := x.turn(c.frame, c.n, c.from, c.to); err != c.want {
			t.Errorf("Turn(%d, %d, %d, %d): %d, want %d", c.frame, c.n, c.from, c.to, err, c.want)
		}
	}
}

// P17.8: whatever was written, while a frame was given and while it was free, is gone when it is given again; nothing else is.
func TestClear(t *testing.T) {
	for _, order := range []int{0, 1, 3, 5, 8} {
		for is := 1; is <= 5; is++ {
			x := newPair(t, 512, 0)
			for range 2 {
				frame, err := x.block(order, api.Movable, is)
				if err != api.OK {
					t.Fatalf("Block(%d): %d", order, err)
				}
				for at := 64 * frame; at < 64*(frame+1<<order); at++ {
					if b, err := x.m.Ram().Byte(at); b != 0 || err != api.OK {
						t.Fatalf("Block(%d, Movable, %d): the byte %d is %d, %d", order, is, at, b, err)
					}
				}
				x.fill(frame, 1<<order)
				x.drop(frame, order)
				x.at(frame, order, is)
				x.fill(frame, 1<<order)
				x.drop(frame, order)
				x.fill(frame, 1<<order)
			}
		}
	}
}

// P17.5: the bytes are the same ones whenever they are told.
func TestRam(t *testing.T) {
	x := newPair(t, 16, 0)
	r := x.m.Ram()
	frame, _ := x.one(api.Movable, api.FTable)
	if err := r.Store(64*frame+8, 77); err != api.OK {
		t.Fatalf("Store: %d", err)
	}
	x.w.words[8*frame+1] = 77
	if w, err := x.m.Ram().Load(64*frame + 8); w != 77 || err != api.OK {
		t.Errorf("Load: %d, %d; want 77", w, err)
	}
	x.drop(frame, 0)
	x.at(frame, 0, api.FData)
	if w, err := r.Load(64*frame + 8); w != 0 || err != api.OK {
		t.Errorf("Load: %d, %d; want 0", w, err)
	}
}

// P17.5: Set and Kind of each section, and their errors.
func TestSet(t *testing.T) {
	for _, n := range []int{8, 9, 21, 1024} {
		x := newPair(t, n, 1)
		for _, section := range []int{math.MinInt, -1, 0, 1, 2, 3, (n+7)/8 - 1, (n + 7) / 8, math.MaxInt} {
			for _, kind := range []int{math.MinInt, -1, 0, 1, 2, 3, 4, math.MaxInt} {
				x.set(section, kind)
			}
		}
	}
	x := newPair(t, 16, 0)
	if err := x.set(2, 4); err != api.ErrRange {
		t.Errorf("Set(2, 4): %d, want ErrRange", err)
	}
	if err := x.set(1, 4); err != api.ErrArg {
		t.Errorf("Set(1, 4): %d, want ErrArg", err)
	}
	x.block(3, api.Unmovable, api.FTable)
	if kind := x.m.Kind(7); kind != api.Unmovable {
		t.Errorf("Kind(7): %d, want Unmovable", kind)
	}
	if kind := x.m.Kind(8); kind != api.Movable {
		t.Errorf("Kind(8): %d, want Movable", kind)
	}
}

// R1, R5: numbers of every sort come in everywhere.
func TestSorts(t *testing.T) {
	for _, n := range []int{8, 257} {
		x := newPair(t, n, 2, 1, 2, 3, 4, 5, 2)
		for _, a := range sorts {
			if is := x.m.Is(a); (is == -1) != (a < 0 || a >= n) {
				t.Errorf("Is(%d): %d", a, is)
			}
			if kind := x.m.Kind(a); (kind == -1) != (a < 0 || a >= n) {
				t.Errorf("Kind(%d): %d", a, kind)
			}
			if got, want := x.m.Count(a), x.w.count(a); got != want {
				t.Errorf("Count(%d): %d, want %d", a, got, want)
			}
			for _, b := range sorts {
				for _, err := range []api.Errno{x.turn(a, b, 1, 4), x.turn(1, 1, a, b), x.set(a, b), x.drop(a, b)} {
					if err == api.OK {
						x = newPair(t, n, 2, 1, 2, 3, 4, 5, 2)
					}
				}
				x.at(a, b, 6)
				if _, err := x.block(a, b, 2); err == api.OK || x.at(a, b, 2) == api.OK {
					x = newPair(t, n, 2, 1, 2, 3, 4, 5, 2)
				}
				if _, err := x.one(a, b); err == api.OK {
					x = newPair(t, n, 2, 1, 2, 3, 4, 5, 2)
				}
			}
		}
	}
}

// step does a call of chance, most of them ones that may be.
func (x pair) step(c *chance) {
	n := x.w.n
	order := c.below(4) * c.below(2)
	if c.below(30) == 0 {
		order = c.below(11) - 1
	}
	frame := c.below(n+2) - 1
	if c.below(8) > 0 {
		frame = frame >> max(order, 0) << max(order, 0)
	}
	switch c.below(12) {
	case 0, 1:
		x.block(order, c.below(3), 1+c.below(5))
	case 2, 3:
		x.one(c.below(3), 2)
	case 4:
		x.block(order, c.below(5)-1, c.below(7))
	case 5:
		x.at(frame, order, c.below(8)-c.below(2))
	case 6, 7, 8:
		x.drop(frame, order)
	case 9:
		x.turn(frame, 1+c.below(3), 2, 4+c.below(2))
	case 10:
		x.turn(frame, c.below(3), c.below(6), c.below(6))
	case 11:
		if c.below(3) == 0 {
			x.set(c.below(n/8+2)-1, c.below(5))
		}
		x.fill(c.below(n), 1)
	}
}

// P17.2 to P17.8: long rows of calls, of few frames and of many, with marks; what is busy goes back till all are free, as one.
func TestRows(t *testing.T) {
	c := chance(17)
	for _, n := range []int{8, 9, 31, 64, 200, 1024} {
		for _, mark := range []int{0, 1, n / 8, n / 2} {
			x := newPair(t, n, mark)
			for range 400000 / (n + 40) {
				x.step(&c)
			}
			for frame := range n {
				if x.m.Is(frame) != api.FFree {
					x.drop(frame, 0)
				}
			}
			fresh, _ := kinds.New(n)
			if l, want := x.m.Blocks(), fresh.Blocks(); !slices.Equal(l, want) {
				t.Errorf("of %d frames are free at last %v, want %v", n, l, want)
			}
		}
	}
}

// R4: two know nothing of each other, and answer alike what was done alike.
func TestTwo(t *testing.T) {
	x, y := newPair(t, 64, 3), newPair(t, 64, 3)
	c, d := chance(3), chance(3)
	for range 500 {
		x.step(&c)
	}
	y.same()
	for range 500 {
		y.step(&d)
	}
	x.same()
	if !slices.Equal(x.w.is, y.w.is) || !slices.Equal(x.m.Blocks(), y.m.Blocks()) {
		t.Errorf("%v and %v", x.w.is, y.w.is)
	}
}

// R3: the free blocks that are told are new memory.
func TestBlocksNew(t *testing.T) {
	x := newPair(t, 24, 0, 1, 0, 2)
	l := x.m.Blocks()
	for i := range l[:cap(l)] {
		l[:cap(l)][i] = api.Block{Frame: 9, Order: 9}
	}
	x.same()
}
