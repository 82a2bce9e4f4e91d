package resv_test

import (
	"math"
	"slices"
	"testing"

	"pantile/api"
	"pantile/resv"
)

// Numbers of all sorts: around 0, blocks of eight, the ends of frames and of pages, and of what a number can be.
var sorts = []int{
	math.MinInt, math.MinInt + 1, math.MinInt + 8, math.MinInt / 2, -1 << 32, -4096, -1024, -16, -9, -8, -7, -1,
	0, 1, 4, 7, 8, 9, 15, 16, 17, 24, 64, 1008, 1015, 1016, 1017, 1023, 1024, 1025, 1032, 4080, 4087, 4088, 4089, 4095, 4096, 4097, 4104,
	1 << 16, 1 << 32, 1<<32 + 8, 1<<32 + 16, math.MaxInt / 2, math.MaxInt - 1023, math.MaxInt - 8, math.MaxInt - 7, math.MaxInt - 1, math.MaxInt,
}

// kept is a reservation as the chapter tells it: each of its eight pages, the frame that is kept for it, and whether it is filled.
type kept struct {
	space  int
	pages  [8]int
	frames [8]int
	filled [8]bool
}

// told tells it as the package should.
func (k *kept) told() api.Reserved {
	x := api.Reserved{Space: k.space, Page: k.pages[0], Frame: k.frames[0]}
	for i, is := range k.filled {
		if is {
			x.Filled += []uint8{1, 2, 4, 8, 16, 32, 64, 128}[i]
		}
	}
	return x
}

// model is a plain list of reservations, the one that was touched longest ago first.
type model struct{ l []*kept }

// in tells the reservation that a page is in and which of its pages it is; nil, 0: none.
func (m *model) in(space, page int) (*kept, int) {
	for _, k := range m.l {
		if i := slices.Index(k.pages[:], page); k.space == space && i >= 0 {
			return k, i
		}
	}
	return nil, 0
}

// of tells the reservation that a frame is of, or nil.
func (m *model) of(frame int) *kept {
	for _, k := range m.l {
		if slices.Contains(k.frames[:], frame) {
			return k
		}
	}
	return nil
}

// gone takes a reservation out of the list.
func (m *model) gone(k *kept) {
	m.l = slices.DeleteFunc(m.l, func(x *kept) bool { return x == k })
}

// touch lets it be the last of the list.
func (m *model) touch(k *kept) {
	m.gone(k)
	m.l = append(m.l, k)
}

// make says P14.1.
func (m *model) make(space, page, frame int) api.Errno {
	if space < 0 || page < 0 || page > 4095 || frame < 0 || frame > 1016 {
		return api.ErrRange
	}
	if page%8 != 0 || frame%8 != 0 {
		return api.ErrAlign
	}
	k := &kept{space: space}
	for i := range 8 {
		k.pages[i], k.frames[i] = page+i, frame+i
		if x, _ := m.in(space, page+i); x != nil || m.of(frame+i) != nil {
			return api.ErrExist
		}
	}
	m.touch(k)
	return api.OK
}

// fill says P14.2.
func (m *model) fill(space, page int) (int, api.Errno) {
	k, i := m.in(space, page)
	switch {
	case k == nil:
		return 0, api.ErrNone
	case k.filled[i]:
		return 0, api.ErrExist
	}
	k.filled[i] = true
	m.touch(k)
	return k.frames[i], api.OK
}

// clear says P14.2.
func (m *model) clear(space, page int) api.Errno {
	k, i := m.in(space, page)
	if k == nil || !k.filled[i] {
		return api.ErrNone
	}
	k.filled[i] = false
	m.touch(k)
	return api.OK
}

// broken says P14.3.
func (m *model) broken(space, page int) ([]int, api.Errno) {
	k, _ := m.in(space, page)
	if k == nil {
		return nil, api.ErrNone
	}
	m.gone(k)
	var l []int
	for i, frame := range k.frames {
		if !k.filled[i] {
			l = append(l, frame)
		}
	}
	return l, api.OK
}

// all says what All does: the least one, and the least one of what is left, till none is.
func (m *model) all() []api.Reserved {
	var l []api.Reserved
	rest := slices.Clone(m.l)
	for len(rest) > 0 {
		least := 0
		for i, k := range rest {
			if k.space < rest[least].space || k.space == rest[least].space && k.pages[0] < rest[least].pages[0] {
				least = i
			}
		}
		l = append(l, rest[least].told())
		rest = slices.Delete(rest, least, least+1)
	}
	return l
}

// pair is reservations, and what they should be.
type pair struct {
	t *testing.T
	r *resv.Resv
	m *model
}

// triple is what Make is told.
type triple struct{ space, page, frame int }

// newPair makes reservations, each of which may be.
func newPair(t *testing.T, l ...triple) pair {
	t.Helper()
	r := resv.New()
	if r == nil {
		t.Fatal("New: nil")
	}
	x := pair{t, r, &model{}}
	for _, k := range l {
		if err := x.make(k.space, k.page, k.frame); err != api.OK {
			t.Fatalf("Make(%d, %d, %d): %d", k.space, k.page, k.frame, err)
		}
	}
	return x
}

func (x pair) make(space, page, frame int) api.Errno {
	x.t.Helper()
	err, want := x.r.Make(space, page, frame), x.m.make(space, page, frame)
	if err != want {
		x.t.Fatalf("Make(%d, %d, %d): %d, want %d", space, page, frame, err, want)
	}
	x.brief()
	return err
}

func (x pair) fill(space, page int) (int, api.Errno) {
	x.t.Helper()
	frame, err := x.r.Fill(space, page)
	want, wantErr := x.m.fill(space, page)
	if frame != want || err != wantErr {
		x.t.Fatalf("Fill(%d, %d): %d, %d; want %d, %d", space, page, frame, err, want, wantErr)
	}
	x.brief()
	return frame, err
}

func (x pair) clear(space, page int) api.Errno {
	x.t.Helper()
	err, want := x.r.Clear(space, page), x.m.clear(space, page)
	if err != want {
		x.t.Fatalf("Clear(%d, %d): %d, want %d", space, page, err, want)
	}
	x.brief()
	return err
}

func (x pair) broken(space, page int) ([]int, api.Errno) {
	x.t.Helper()
	l, err := x.r.Break(space, page)
	want, wantErr := x.m.broken(space, page)
	if !slices.Equal(l, want) || err != wantErr {
		x.t.Fatalf("Break(%d, %d): %v, %d; want %v, %d", space, page, l, err, want, wantErr)
	}
	x.brief()
	return l, err
}

// brief holds what is told without a place against the model's, P14.6 among it.
func (x pair) brief() {
	x.t.Helper()
	all := x.r.All()
	if want := x.m.all(); !slices.Equal(all, want) {
		x.t.Fatalf("All: %v, want %v", all, want)
	}
	held := 8 * len(all)
	for _, k := range x.m.l {
		for _, is := range k.filled {
			if is {
				held--
			}
		}
	}
	if n := x.r.Held(); n != held {
		x.t.Fatalf("Held: %d, want %d", n, held)
	}
	want, wantOK := api.Reserved{}, len(x.m.l) > 0
	if wantOK {
		want = x.m.l[0].told()
	}
	if got, ok := x.r.Oldest(); got != want || ok != wantOK {
		x.t.Fatalf("Oldest: %v, %t; want %v, %t", got, ok, want, wantOK)
	}
}

func (x pair) find(space, page int) {
	x.t.Helper()
	k, _ := x.m.in(space, page)
	want := api.Reserved{}
	if k != nil {
		want = k.told()
	}
	if got, ok := x.r.Find(space, page); got != want || ok != (k != nil) {
		x.t.Fatalf("Find(%d, %d): %v, %t; want %v, %t", space, page, got, ok, want, k != nil)
	}
}

func (x pair) owner(frame int) {
	x.t.Helper()
	k := x.m.of(frame)
	want := api.Reserved{}
	if k != nil {
		want = k.told()
	}
	if got, ok := x.r.Owner(frame); got != want || ok != (k != nil) {
		x.t.Fatalf("Owner(%d): %v, %t; want %v, %t", frame, got, ok, want, k != nil)
	}
}

// same asks all there is to ask of frames, and of the pages of spaces that have a reservation, and around them; asking changes nothing.
func (x pair) same() {
	x.t.Helper()
	x.brief()
	for frame := -9; frame < 1040; frame++ {
		x.owner(frame)
	}
	for _, k := range slices.Clone(x.m.l) {
		for page := k.pages[0] - 9; page < k.pages[0]+17; page++ {
			x.find(k.space, page)
			x.find(k.space-1, page)
			x.find(k.space+1, page)
		}
	}
	for _, a := range sorts {
		x.owner(a)
		for _, b := range sorts {
			x.find(a, b)
		}
	}
	x.brief()
}

// chance makes numbers in a row that always is the same.
type chance uint64

func (c *chance) below(n int) int {
	*c = *c*6364136223846793005 + 1442695040888963407
	return int(uint64(*c) >> 33 % uint64(n))
}

// mix puts numbers from 0 on in an order of chance.
func (c *chance) mix(n int) []int {
	l := make([]int, n)
	for i := range l {
		j := c.below(i + 1)
		l[i], l[j] = l[j], i
	}
	return l
}

// orders hands on each order of the numbers below n.
func orders(n int, each func([]int)) {
	var longer func(l []int)
	longer = func(l []int) {
		if len(l) == n {
			each(l)
			return
		}
		for i := range n {
			if !slices.Contains(l, i) {
				longer(append(slices.Clone(l), i))
			}
		}
	}
	longer(nil)
}

// rows hands on each row of n numbers below some.
func rows(n, below int, each func([]int)) {
	l := make([]int, n)
	for {
		each(l)
		i := 0
		for i < n && l[i] == below-1 {
			l[i] = 0
			i++
		}
		if i == n {
			return
		}
		l[i]++
	}
}

// The chapter's example, and what it comes to.
func TestExample(t *testing.T) {
	r := resv.New()
	if err := r.Make(0, 8, 16); err != api.OK {
		t.Errorf("Make(0, 8, 16): %d", err)
	}
	if frame, err := r.Fill(0, 9); frame != 17 || err != api.OK {
		t.Errorf("Fill(0, 9): %d, %d; want 17", frame, err)
	}
	if n := r.Held(); n != 7 {
		t.Errorf("Held: %d, want 7", n)
	}
	want := api.Reserved{Space: 0, Page: 8, Frame: 16, Filled: 2}
	if x, ok := r.Find(0, 15); x != want || !ok {
		t.Errorf("Find(0, 15): %v, %t; want %v", x, ok, want)
	}
	if x, ok := r.Owner(23); x != want || !ok {
		t.Errorf("Owner(23): %v, %t; want %v", x, ok, want)
	}
	if l, err := r.Break(0, 8); !slices.Equal(l, []int{16, 18, 19, 20, 21, 22, 23}) || err != api.OK {
		t.Errorf("Break(0, 8): %v, %d", l, err)
	}
	if n := r.Held(); n != 0 {
		t.Errorf("Held: %d, want 0", n)
	}
}

// P14.2 to P14.4: new ones are none, and nothing is in them.
func TestNew(t *testing.T) {
	x := newPair(t)
	x.same()
	for _, a := range sorts {
		for _, b := range sorts {
			if frame, err := x.fill(a, b); frame != 0 || err != api.ErrNone {
				t.Errorf("Fill(%d, %d) of new ones: %d, %d; want ErrNone", a, b, frame, err)
			}
			if err := x.clear(a, b); err != api.ErrNone {
				t.Errorf("Clear(%d, %d) of new ones: %d, want ErrNone", a, b, err)
			}
			if l, err := x.broken(a, b); len(l) != 0 || err != api.ErrNone {
				t.Errorf("Break(%d, %d) of new ones: %v, %d; want ErrNone", a, b, l, err)
			}
		}
	}
	x.same()
}

// P14.1 to P14.4: the errors of nil ones come ahead of all others, and they tell nothing.
func TestNil(t *testing.T) {
	var r *resv.Resv
	for _, a := range sorts {
		for _, b := range sorts {
			for _, c := range []int{a, b, 0, 16, -1} {
				if err := r.Make(a, b, c); err != api.ErrNil {
					t.Errorf("Make(%d, %d, %d): %d, want ErrNil", a, b, c, err)
				}
			}
			if frame, err := r.Fill(a, b); frame != 0 || err != api.ErrNil {
				t.Errorf("Fill(%d, %d): %d, %d; want ErrNil", a, b, frame, err)
			}
			if err := r.Clear(a, b); err != api.ErrNil {
				t.Errorf("Clear(%d, %d): %d, want ErrNil", a, b, err)
			}
			if l, err := r.Break(a, b); len(l) != 0 || err != api.ErrNil {
				t.Errorf("Break(%d, %d): %v, %d; want ErrNil", a, b, l, err)
			}
			if x, ok := r.Find(a, b); x != (api.Reserved{}) || ok {
				t.Errorf("Find(%d, %d): %v, %t; want nothing", a, b, x, ok)
			}
		}
		if x, ok := r.Owner(a); x != (api.Reserved{}) || ok {
			t.Errorf("Owner(%d): %v, %t; want nothing", a, x, ok)
		}
	}
	if x, ok := r.Oldest(); x != (api.Reserved{}) || ok {
		t.Errorf("Oldest: %v, %t; want nothing", x, ok)
	}
	if n := r.Held(); n != 0 {
		t.Errorf("Held: %d, want 0", n)
	}
	if l := r.All(); len(l) != 0 {
		t.Errorf("All: %v, want none", l)
	}
}

// P14.1: every error, in the order in which they are named, of (1, 8, 16) that is there.
func TestMakeErrors(t *testing.T) {
	for _, c := range []struct {
		space, page, frame int
		want               api.Errno
	}{
		{0, 0, 0, api.OK}, {0, 4088, 1016, api.OK}, {math.MaxInt, 8, 24, api.OK}, {0, 8, 24, api.OK}, {1, 16, 24, api.OK}, {1, 0, 8, api.OK},
		{-1, 8, 24, api.ErrRange}, {math.MinInt, 8, 24, api.ErrRange},
		{1, -8, 24, api.ErrRange}, {1, -1, 24, api.ErrRange}, {1, 4096, 24, api.ErrRange}, {1, math.MaxInt - 7, 24, api.ErrRange},
		{1, 16, -8, api.ErrRange}, {1, 16, -1, api.ErrRange}, {1, 16, 1017, api.ErrRange}, {1, 16, 1024, api.ErrRange}, {1, 16, math.MinInt, api.ErrRange},
		{1, 4095, 24, api.ErrAlign}, {1, 4089, 24, api.ErrAlign}, {1, 1, 24, api.ErrAlign}, {1, 20, 24, api.ErrAlign},
		{1, 16, 1, api.ErrAlign}, {1, 16, 28, api.ErrAlign}, {1, 16, 1015, api.ErrAlign}, {1, 12, 12, api.ErrAlign},
		{1, 8, 24, api.ErrExist}, {1, 16, 16, api.ErrExist}, {0, 8, 16, api.ErrExist}, {1, 8, 16, api.ErrExist},
		// ErrRange ahead of ErrAlign and of ErrExist
		{-1, 9, 16, api.ErrRange}, {-1, 8, 16, api.ErrRange}, {1, 9, -8, api.ErrRange}, {1, 8, 1017, api.ErrRange}, {1, 4097, 17, api.ErrRange}, {1, -8, 16, api.ErrRange}, {1, 9, 1024, api.ErrRange},
		// ErrAlign ahead of ErrExist
		{1, 9, 16, api.ErrAlign}, {1, 15, 24, api.ErrAlign}, {1, 8, 17, api.ErrAlign}, {1, 16, 23, api.ErrAlign}, {1, 8, 25, api.ErrAlign}, {2, 9, 16, api.ErrAlign},
	} {
		x := newPair(t, triple{1, 8, 16})
		if err := x.make(c.space, c.page, c.frame); err != c.want {
			t.Errorf("Make(%d, %d, %d): %d, want %d", c.space, c.page, c.frame, err, c.want)
		}
		x.same()
	}
}

// P14.1: numbers of every sort, of spaces, pages and frames.
func TestMakeSorts(t *testing.T) {
	full := newPair(t, triple{0, 8, 16}, triple{1, 0, 0}, triple{math.MaxInt, 4088, 1016})
	full.fill(0, 9)
	for _, space := range sorts {
		for _, page := range sorts {
			for _, frame := range sorts {
				x := newPair(t)
				if x.make(space, page, frame) == api.OK {
					x.fill(space, page+7)
					if l := x.r.All(); len(l) != 1 || l[0] != (api.Reserved{Space: space, Page: page, Frame: frame, Filled: 128}) {
						t.Errorf("All: %v of Make(%d, %d, %d)", l, space, page, frame)
					}
				}
				if full.make(space, page, frame) == api.OK {
					full.broken(space, page)
				}
			}
		}
	}
	full.same()
}

// P14.1, P14.4, P14.5: all even pages of a space, and all even frames, one by one.
func TestMakeEach(t *testing.T) {
	for at := 0; at < 4096; at += 8 {
		x := newPair(t, triple{3, at, at / 4 &^ 7})
		x.same()
		for page := range 4096 {
			if y, ok := x.r.Find(3, page); ok != (page >= at && page < at+8) || ok && y.Page != at {
				t.Fatalf("Find(3, %d), of the pages from %d on: %v, %t", page, at, y, ok)
			}
		}
	}
}

// P14.5: when all frames are kept, no other reservation can be made; each of the 128 is its own.
func TestMakeAll(t *testing.T) {
	c := chance(1)
	for range 3 {
		x := newPair(t)
		frames := c.mix(128)
		for i, page := range c.mix(128) {
			if err := x.make(i%3, 8*page, 8*frames[i]); err != api.OK {
				t.Fatalf("Make(%d, %d, %d): %d", i%3, 8*page, 8*frames[i], err)
			}
		}
		x.same()
		if n := x.r.Held(); n != 1024 {
			t.Errorf("Held: %d, want 1024", n)
		}
		for frame := 0; frame < 1024; frame += 8 {
			if err := x.make(9, 2048+frame, frame); err != api.ErrExist {
				t.Errorf("Make(9, %d, %d): %d, want ErrExist", 2048+frame, frame, err)
			}
		}
		for _, k := range x.r.All() {
			for i := range 8 {
				if frame, err := x.fill(k.Space, k.Page+i); frame != k.Frame+i || err != api.OK {
					t.Fatalf("Fill(%d, %d): %d, %d; want %d", k.Space, k.Page+i, frame, err, k.Frame+i)
				}
			}
		}
		x.same()
		if n := x.r.Held(); n != 0 {
			t.Errorf("Held: %d, want 0", n)
		}
		for _, k := range x.r.All() {
			x.broken(k.Space, k.Page+c.below(8))
		}
		x.same()
		if l := x.r.All(); len(l) != 0 {
			t.Errorf("All: %v, want none", l)
		}
	}
}

// P14.2: each page of a reservation is filled once, and cleared once, whatever else is filled.
func TestFillSets(t *testing.T) {
	for set := range 256 {
		for i := range 8 {
			x := newPair(t, triple{2, 64, 1016}, triple{2, 72, 0})
			for j := range 8 {
				if set>>j&1 != 0 {
					x.fill(2, 64+j)
				}
			}
			was := set>>i&1 != 0
			frame, err := x.fill(2, 64+i)
			if was && (frame != 0 || err != api.ErrExist) || !was && (frame != 1016+i || err != api.OK) {
				t.Fatalf("Fill(2, %d), where %08b was filled: %d, %d", 64+i, set, frame, err)
			}
			if k, ok := x.r.Find(2, 71); !ok || k.Filled != uint8(set|1<<i) {
				t.Fatalf("Find(2, 71): %v, %t; want %08b filled", k, ok, set|1<<i)
			}
			if err := x.clear(2, 64+i); err != api.OK {
				t.Fatalf("Clear(2, %d): %d", 64+i, err)
			}
			if err := x.clear(2, 64+i); err != api.ErrNone {
				t.Fatalf("Clear(2, %d) again: %d, want ErrNone", 64+i, err)
			}
			if k, ok := x.r.Owner(1016); !ok || k.Filled != uint8(set&^(1<<i)) {
				t.Fatalf("Owner(1016): %v, %t; want %08b filled", k, ok, set&^(1<<i))
			}
		}
	}
}

// P14.2: of reservations side by side, in a space and in others, each page is filled alone, in its own frame.
func TestFillApart(t *testing.T) {
	l := []triple{{0, 8, 32}, {0, 16, 24}, {1, 8, 8}, {1, 0, 0}, {2, 24, 1016}, {math.MaxInt, 8, 512}}
	for _, k := range l {
		for i := range 8 {
			x := newPair(t, l...)
			if frame, err := x.fill(k.space, k.page+i); frame != k.frame+i || err != api.OK {
				t.Errorf("Fill(%d, %d): %d, %d; want %d", k.space, k.page+i, frame, err, k.frame+i)
			}
			x.same()
			if err := x.clear(k.space, k.page+i); err != api.OK {
				t.Errorf("Clear(%d, %d): %d", k.space, k.page+i, err)
			}
			x.same()
		}
	}
}

// P14.2, P14.3: numbers of every sort; what is in no reservation is ErrNone, and nothing changes.
func TestNone(t *testing.T) {
	x := newPair(t, triple{0, 8, 16}, triple{1, 0, 0}, triple{math.MaxInt, 4088, 1016})
	x.fill(0, 9)
	for _, space := range sorts {
		for _, page := range sorts {
			k, _ := x.m.in(space, page)
			if k != nil {
				continue
			}
			if frame, err := x.fill(space, page); frame != 0 || err != api.ErrNone {
				t.Errorf("Fill(%d, %d): %d, %d; want ErrNone", space, page, frame, err)
			}
			if err := x.clear(space, page); err != api.ErrNone {
				t.Errorf("Clear(%d, %d): %d, want ErrNone", space, page, err)
			}
			if l, err := x.broken(space, page); len(l) != 0 || err != api.ErrNone {
				t.Errorf("Break(%d, %d): %v, %d; want ErrNone", space, page, l, err)
			}
		}
	}
	x.same()
}

// P14.3: by each of its pages, with each set of them filled, a reservation is broken, and another one may be there.
func TestBreak(t *testing.T) {
	for set := range 256 {
		for i := range 8 {
			x := newPair(t, triple{1, 8, 16}, triple{1, 16, 24}, triple{0, 8, 8})
			x.fill(1, 17)
			x.fill(0, 10)
			var want []int
			for j := range 8 {
				if set>>j&1 != 0 {
					x.fill(1, 8+j)
				} else {
					want = append(want, 16+j)
				}
			}
			if l, err := x.broken(1, 8+i); !slices.Equal(l, want) || err != api.OK {
				t.Fatalf("Break(1, %d): %v, %d; want %v", 8+i, l, err, want)
			}
			x.find(1, 8)
			x.owner(16)
			if l, err := x.broken(1, 8+i); len(l) != 0 || err != api.ErrNone {
				t.Fatalf("Break(1, %d) again: %v, %d; want ErrNone", 8+i, l, err)
			}
			if _, err := x.fill(1, 8+i); err != api.ErrNone {
				t.Fatalf("Fill(1, %d) of a broken one: %d, want ErrNone", 8+i, err)
			}
			if err := x.clear(1, 8+i); err != api.ErrNone {
				t.Fatalf("Clear(1, %d) of a broken one: %d, want ErrNone", 8+i, err)
			}
		}
	}
}

// P14.1, P14.3: when one is broken, its pages and its frames may be of others, in which nothing is filled at first.
func TestMakeAgain(t *testing.T) {
	for _, k := range []triple{{1, 8, 16}, {1, 8, 48}, {5, 8, 16}, {1, 80, 16}, {5, 80, 16}} {
		for i := range 8 {
			x := newPair(t, triple{1, 8, 16}, triple{1, 16, 24})
			for j := range i {
				x.fill(1, 8+j)
			}
			x.broken(1, 8+i)
			x.same()
			if err := x.make(k.space, k.page, k.frame); err != api.OK {
				t.Errorf("Make(%d, %d, %d): %d", k.space, k.page, k.frame, err)
			}
			x.same()
			want := api.Reserved{Space: k.space, Page: k.page, Frame: k.frame}
			if got, ok := x.r.Find(k.space, k.page+7); got != want || !ok {
				t.Errorf("Find(%d, %d): %v, %t; want %v", k.space, k.page+7, got, ok, want)
			}
			if got, ok := x.r.Oldest(); !ok || got.Page != 16 {
				t.Errorf("Oldest: %v, %t; want the one that was not broken", got, ok)
			}
		}
	}
}

// P14.4: all come by rising spaces, then pages, in whatever order they were made and touched, and whatever their frames are.
func TestAllRises(t *testing.T) {
	l := []triple{{0, 8, 1016}, {0, 4088, 64}, {1, 0, 512}, {7, 16, 8}, {7, 64, 0}, {math.MaxInt, 8, 32}}
	orders(len(l), func(order []int) {
		x := newPair(t)
		for _, i := range order {
			x.make(l[i].space, l[i].page, l[i].frame)
		}
		for i, k := range x.r.All() {
			if got := (triple{k.Space, k.Page, k.Frame}); got != l[i] {
				t.Fatalf("made in the order %v: All[%d] is %v, want %v", order, i, got, l[i])
			}
		}
		for _, i := range order[:3] {
			x.fill(l[i].space, l[i].page+i)
		}
	})
}

// P14.4: the oldest is the one that was touched longest ago, whatever row of calls there was.
func TestOldestRows(t *testing.T) {
	l := []triple{{2, 8, 16}, {0, 16, 8}, {1, 0, 24}}
	rows(4, 12, func(row []int) {
		x := newPair(t, l...)
		for _, what := range row {
			k := l[what%3]
			switch what / 3 {
			case 0:
				x.fill(k.space, k.page)
			case 1:
				x.clear(k.space, k.page)
			case 2:
				x.broken(k.space, k.page+7)
			case 3:
				x.make(k.space, k.page, k.frame)
			}
		}
	})
}

// P14.4: those that are broken, the oldest first, come in the order in which they were touched last.
func TestOldestOrders(t *testing.T) {
	for n := 1; n <= 6; n++ {
		for kind := range 3 {
			orders(n, func(order []int) {
				x := newPair(t)
				for i := range n {
					x.make(n-i, 8*i, 16*i)
					x.fill(n-i, 8*i+1)
				}
				for _, i := range order {
					switch kind {
					case 0:
						x.fill(n-i, 8*i+7)
					case 1:
						x.clear(n-i, 8*i+1)
					case 2:
						x.broken(n-i, 8*i)
						x.make(n-i, 8*i, 16*i)
					}
				}
				for _, i := range order {
					k, ok := x.r.Oldest()
					if !ok || k.Page != 8*i {
						t.Fatalf("touched in the order %v: Oldest is %v, %t; want the page %d", order, k, ok, 8*i)
					}
					x.broken(k.Space, k.Page)
				}
				if k, ok := x.r.Oldest(); ok || k != (api.Reserved{}) {
					t.Fatalf("Oldest of none: %v, %t", k, ok)
				}
			})
		}
	}
}

// P14.4: neither looks nor calls that answer an error touch a reservation.
func TestOldestUntouched(t *testing.T) {
	x := newPair(t, triple{0, 8, 16}, triple{0, 16, 24})
	x.fill(0, 8)
	x.fill(0, 16)
	want := api.Reserved{Page: 8, Frame: 16, Filled: 1}
	for what, call := range []func(){
		func() { x.r.Find(0, 8) },
		func() { x.r.Find(0, 9) },
		func() { x.r.Owner(16) },
		func() { x.r.Owner(23) },
		func() { x.r.Oldest() },
		func() { x.r.Held() },
		func() { x.r.All() },
		func() { x.fill(0, 8) },
		func() { x.clear(0, 9) },
		func() { x.make(0, 8, 16) },
		func() { x.make(0, 8, 32) },
		func() { x.make(0, 32, 16) },
		func() { x.make(-1, 8, 16) },
		func() { x.make(0, 9, 16) },
		func() { x.fill(1, 8) },
		func() { x.broken(1, 8) },
	} {
		call()
		if got, ok := x.r.Oldest(); got != want || !ok {
			t.Errorf("after the call %d: Oldest is %v, %t; want %v", what, got, ok, want)
		}
	}
	x.same()
	x.clear(0, 8)
	if got, ok := x.r.Oldest(); !ok || got.Page != 16 {
		t.Errorf("Oldest: %v, %t; want the page 16", got, ok)
	}
}

// P14.4: after a long row of touches it is as it was at first: who is touched later is broken later.
func TestOldestLong(t *testing.T) {
	x := newPair(t, triple{5, 8, 16}, triple{0, 8, 24}, triple{9, 8, 32})
	for range 70000 {
		x.r.Fill(0, 8)
		x.r.Clear(0, 8)
	}
	x.m.touch(x.m.l[1])
	x.brief()
	x.fill(5, 8)
	x.fill(0, 8)
	for _, space := range []int{9, 5, 0} {
		if got, ok := x.r.Oldest(); !ok || got.Space != space {
			t.Errorf("Oldest: %v, %t; want the space %d", got, ok, space)
		}
		x.broken(space, 8)
	}
}

// R3: what is told is new memory, and stays as it was told.
func TestToldNew(t *testing.T) {
	for n := range 20 {
		x := newPair(t)
		for i := range n {
			x.make(i%3, 8*i, 8*i)
			x.fill(i%3, 8*i+i%8)
		}
		all, more := x.r.All(), x.r.All()
		for i := range all {
			all[i] = api.Reserved{Space: -9}
		}
		_ = append(all, api.Reserved{Space: -8})
		x.same()
		want := slices.Clone(more)
		for _, k := range want {
			x.fill(k.Space, k.Page+3)
			x.clear(k.Space, k.Page+4)
		}
		x.make(0, 4088, 1016)
		frames, _ := x.broken(0, 4088)
		x.make(0, 4088, 1016)
		for i := range frames {
			frames[i] = -9
		}
		x.same()
		again, _ := x.broken(0, 4088)
		x.make(1, 4088, 1016)
		x.fill(1, 4088)
		if !slices.Equal(more, want) || !slices.Equal(again, []int{1016, 1017, 1018, 1019, 1020, 1021, 1022, 1023}) {
			t.Errorf("what was told became %v, %v; was %v", more, again, want)
		}
	}
}

// step does one of all calls, mostly ones that may be.
func (x pair) step(c *chance, spaces, blocks, frames int) {
	x.t.Helper()
	space, page := c.below(spaces), c.below(8*blocks)
	if l := x.m.l; len(l) > 0 && c.below(3) > 0 {
		k := l[c.below(len(l))]
		space, page = k.space, k.pages[c.below(8)]
	}
	switch c.below(14) {
	case 0, 1, 2:
		x.make(c.below(spaces), 8*c.below(blocks), 8*c.below(frames))
	case 3:
		x.make(c.below(5)-2, c.below(4120)-12, c.below(1040)-8)
	case 4, 5:
		x.clear(space, page)
	case 6:
		x.broken(space, page)
	case 7:
		if k, ok := x.r.Oldest(); ok {
			x.broken(k.Space, k.Page)
		}
	default:
		x.fill(space, page)
	}
}

// P14.1 to P14.6: long rows of calls, of few reservations and of many.
func TestRows(t *testing.T) {
	c := chance(7)
	for _, spaces := range []int{1, 3, 16} {
		for _, blocks := range []int{1, 4, 512} {
			for _, frames := range []int{1, 3, 20, 128} {
				x := newPair(t)
				for i := range 600 {
					x.step(&c, spaces, blocks, frames)
					if i%100 == 0 {
						x.same()
					}
				}
				x.same()
				for k, ok := x.r.Oldest(); ok; k, ok = x.r.Oldest() {
					x.broken(k.Space, k.Page)
				}
				x.same()
			}
		}
	}
}

// R4: two know nothing of each other, and answer alike what was done alike.
func TestTwo(t *testing.T) {
	x, y := newPair(t), newPair(t)
	c, d := chance(3), chance(3)
	for range 400 {
		x.step(&c, 3, 12, 20)
	}
	y.same()
	if len(x.r.All()) == 0 || len(y.r.All()) != 0 {
		t.Errorf("%v and %v", x.r.All(), y.r.All())
	}
	for range 400 {
		y.step(&d, 3, 12, 20)
	}
	x.same()
	y.same()
	if !slices.Equal(x.r.All(), y.r.All()) {
		t.Errorf("%v and %v", x.r.All(), y.r.All())
	}
}
