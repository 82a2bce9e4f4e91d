package object_test

import (
	"maps"
	"math"
	"slices"
	"testing"

	"pantile/api"
	"pantile/object"
)

// Numbers of all sorts: around 0, the ends of frames and of pages, and of what a number can be.
var sorts = []int{
	math.MinInt, math.MinInt + 1, math.MinInt + 1023, math.MinInt / 2, -1 << 32, -4096, -1024, -64, -2, -1,
	0, 1, 2, 3, 4, 8, 9, 10, 63, 64, 1022, 1023, 1024, 1025, 2048, 4094, 4095, 4096, 4097,
	1 << 16, 1 << 20, 1 << 32, 1<<32 + 3, 1<<32 + 9, math.MaxInt / 2, math.MaxInt - 4095, math.MaxInt - 1023, math.MaxInt - 1, math.MaxInt,
}

// stand says that an object's page stands in a frame.
type stand struct{ id, page, frame int }

// model says the chapter's words: how often each object that ever was made is held, by its number, and a list of what stands where, in no order.
type model struct {
	held   []int
	stands []stand
}

// there says whether there is an object.
func (m *model) there(id int) bool { return id >= 0 && id < len(m.held) && m.held[id] > 0 }

// of tells an object's frames.
func (m *model) of(id int) []int {
	var l []int
	for _, s := range m.stands {
		if s.id == id {
			l = append(l, s.frame)
		}
	}
	slices.Sort(l)
	return l
}

// at tells where in the list a page of an object is, or -1.
func (m *model) at(id, page int) int {
	return slices.IndexFunc(m.stands, func(s stand) bool { return s.id == id && s.page == page })
}

// in tells where in the list a frame is, or -1.
func (m *model) in(frame int) int {
	return slices.IndexFunc(m.stands, func(s stand) bool { return s.frame == frame })
}

// drop says P12.1.
func (m *model) drop(id int) ([]int, api.Errno) {
	if !m.there(id) {
		return nil, api.ErrNone
	}
	m.held[id]--
	if m.held[id] > 0 {
		return nil, api.OK
	}
	l := m.of(id)
	m.stands = slices.DeleteFunc(m.stands, func(s stand) bool { return s.id == id })
	return l, api.OK
}

// set says P12.2.
func (m *model) set(id, page, frame int) api.Errno {
	switch {
	case !m.there(id):
		return api.ErrNone
	case page < 0 || page > 4095 || frame < 0 || frame > 1023:
		return api.ErrRange
	case m.at(id, page) >= 0 || m.in(frame) >= 0:
		return api.ErrExist
	}
	m.stands = append(m.stands, stand{id, page, frame})
	return api.OK
}

// change says P12.3.
func (m *model) change(from, to int) api.Errno {
	i := m.in(from)
	switch {
	case i < 0:
		return api.ErrNone
	case to < 0 || to > 1023:
		return api.ErrRange
	case m.in(to) >= 0:
		return api.ErrExist
	}
	m.stands[i].frame = to
	return api.OK
}

// pair is objects, and what they should be.
type pair struct {
	t *testing.T
	o *object.Objects
	m *model
}

// newPair makes so many objects, with what stands in frames.
func newPair(t *testing.T, n int, l ...stand) pair {
	t.Helper()
	o := object.New()
	if o == nil {
		t.Fatal("New: nil")
	}
	x := pair{t, o, &model{}}
	for range n {
		x.make()
	}
	for _, s := range l {
		if err := x.set(s.id, s.page, s.frame); err != api.OK {
			t.Fatalf("Set%v: %d", s, err)
		}
	}
	return x
}

func (x pair) make() int {
	x.t.Helper()
	want := len(x.m.held)
	x.m.held = append(x.m.held, 1)
	if id := x.o.Make(); id != want {
		x.t.Fatalf("Make: %d, want %d", id, want)
	}
	return want
}

func (x pair) hold(id int) api.Errno {
	x.t.Helper()
	want := api.ErrNone
	if x.m.there(id) {
		x.m.held[id]++
		want = api.OK
	}
	if err := x.o.Hold(id); err != want {
		x.t.Fatalf("Hold(%d): %d, want %d", id, err, want)
	}
	x.object(id)
	return want
}

func (x pair) drop(id int) ([]int, api.Errno) {
	x.t.Helper()
	l, err := x.o.Drop(id)
	want, wantErr := x.m.drop(id)
	if err != wantErr || !slices.Equal(l, want) {
		x.t.Fatalf("Drop(%d): %v, %d; want %v, %d", id, l, err, want, wantErr)
	}
	x.object(id)
	for _, frame := range l {
		x.frame(frame)
	}
	return l, err
}

func (x pair) set(id, page, frame int) api.Errno {
	x.t.Helper()
	err, want := x.o.Set(id, page, frame), x.m.set(id, page, frame)
	if err != want {
		x.t.Fatalf("Set(%d, %d, %d): %d, want %d", id, page, frame, err, want)
	}
	x.object(id)
	x.page(id, page)
	x.frame(frame)
	return err
}

func (x pair) change(from, to int) api.Errno {
	x.t.Helper()
	err, want := x.o.Change(from, to), x.m.change(from, to)
	if err != want {
		x.t.Fatalf("Change(%d, %d): %d, want %d", from, to, err, want)
	}
	x.frame(from)
	x.frame(to)
	return err
}

// page holds what is told of an object's page against the model's.
func (x pair) page(id, page int) {
	x.t.Helper()
	want, wantErr := 0, api.ErrNone
	if i := x.m.at(id, page); i >= 0 {
		want, wantErr = x.m.stands[i].frame, api.OK
	}
	if frame, err := x.o.Frame(id, page); frame != want || err != wantErr {
		x.t.Fatalf("Frame(%d, %d): %d, %d; want %d, %d", id, page, frame, err, want, wantErr)
	}
}

// frame holds what is told of a frame against the model's; and P12.5: the page that has it has just it.
func (x pair) frame(frame int) {
	x.t.Helper()
	want, wantErr := stand{}, api.ErrNone
	if i := x.m.in(frame); i >= 0 {
		want, wantErr = x.m.stands[i], api.OK
	}
	id, page, err := x.o.Owner(frame)
	if id != want.id || page != want.page || err != wantErr {
		x.t.Fatalf("Owner(%d): %d, %d, %d; want %d, %d, %d", frame, id, page, err, want.id, want.page, wantErr)
	}
	if err != api.OK {
		return
	}
	if got, err := x.o.Frame(id, page); got != frame || err != api.OK {
		x.t.Fatalf("Owner(%d): %d, %d; but Frame of that: %d, %d", frame, id, page, got, err)
	}
}

// object holds what is told of an object against the model's.
func (x pair) object(id int) {
	x.t.Helper()
	if l, want := x.o.Frames(id), x.m.of(id); !slices.Equal(l, want) {
		x.t.Fatalf("Frames(%d): %v, want %v", id, l, want)
	}
	n := 0
	for _, held := range x.m.held {
		n += min(held, 1)
	}
	if got := x.o.Len(); got != n {
		x.t.Fatalf("Len: %d, want %d", got, n)
	}
}

// ids tells all numbers there were, and some that there were not.
func (x pair) ids() []int {
	l := slices.Clone(sorts)
	for id := range len(x.m.held) + 3 {
		l = append(l, id)
	}
	return l
}

// same asks what there is to ask: numbers of all sorts, all that stands and all frames; asking changes nothing.
func (x pair) same() {
	x.t.Helper()
	for _, id := range x.ids() {
		x.object(id)
		for _, page := range []int{math.MinInt, -1, 0, 1, 3, 4094, 4095, 4096, 1<<32 + 3, math.MaxInt} {
			x.page(id, page)
		}
	}
	for _, s := range x.m.stands {
		x.page(s.id, s.page)
		x.page(s.id, s.page+1)
		x.page(s.id+1, s.page)
	}
	for frame := -2; frame < 1027; frame++ {
		x.frame(frame)
	}
	for _, frame := range sorts {
		x.frame(frame)
	}
}

// shot is all that is told at one time: whose each frame is, and the objects' frames by their numbers.
type shot struct {
	stands []stand
	frames map[int][]int
	n      int
}

func (x pair) shot() shot {
	s := shot{frames: map[int][]int{}, n: x.o.Len()}
	for frame := range 1024 {
		if id, page, err := x.o.Owner(frame); err == api.OK {
			s.stands = append(s.stands, stand{id, page, frame})
		}
	}
	for _, id := range x.ids() {
		if l := x.o.Frames(id); len(l) > 0 {
			s.frames[id] = l
		}
	}
	return s
}

// like tells whether the same was told at two times.
func (s shot) like(other shot) bool {
	return s.n == other.n && slices.Equal(s.stands, other.stands) && maps.EqualFunc(s.frames, other.frames, slices.Equal[[]int])
}

// chance makes numbers in a row that always is the same.
type chance uint64

func (c *chance) below(n int) int {
	*c = *c*6364136223846793005 + 1442695040888963407
	return int(uint64(*c) >> 33 % uint64(n))
}

// mix puts numbers from 0 on in an order of chance.
func (c *chance) mix(n int) []int {
	l := make([]int, n)
	for i := range l {
		j := c.below(i + 1)
		l[i], l[j] = l[j], i
	}
	return l
}

// orders hands on each order of the numbers below n.
func orders(n int, each func([]int)) {
	var longer func(l []int)
	longer = func(l []int) {
		if len(l) == n {
			each(l)
			return
		}
		for i := range n {
			if !slices.Contains(l, i) {
				longer(append(slices.Clone(l), i))
			}
		}
	}
	longer(nil)
}

// The chapter's example, and what it comes to.
func TestExample(t *testing.T) {
	o := object.New()
	if id := o.Make(); id != 0 {
		t.Errorf("Make: %d, want 0", id)
	}
	if err := o.Set(0, 3, 9); err != api.OK {
		t.Errorf("Set(0, 3, 9): %d", err)
	}
	if err := o.Hold(0); err != api.OK {
		t.Errorf("Hold(0): %d", err)
	}
	if l, err := o.Drop(0); len(l) != 0 || err != api.OK {
		t.Errorf("Drop(0): %v, %d; want no frames", l, err)
	}
	if l, err := o.Drop(0); !slices.Equal(l, []int{9}) || err != api.OK {
		t.Errorf("Drop(0): %v, %d; want 9", l, err)
	}
	if l, err := o.Drop(0); len(l) != 0 || err != api.ErrNone {
		t.Errorf("Drop(0) of none: %v, %d; want ErrNone", l, err)
	}
	if n := o.Len(); n != 0 {
		t.Errorf("Len: %d, want 0", n)
	}
}

// P12.1 to P12.4: of new ones there is no object of any number, and nobody has a frame.
func TestNew(t *testing.T) {
	x := newPair(t, 0)
	x.same()
	for _, a := range sorts {
		if err := x.hold(a); err != api.ErrNone {
			t.Errorf("Hold(%d) of a new one: %d, want ErrNone", a, err)
		}
		if l, err := x.drop(a); err != api.ErrNone || len(l) != 0 {
			t.Errorf("Drop(%d) of a new one: %v, %d, want ErrNone", a, l, err)
		}
		if err := x.set(a, 0, 0); err != api.ErrNone {
			t.Errorf("Set(%d, 0, 0) of a new one: %d, want ErrNone", a, err)
		}
		if err := x.change(a, 5); err != api.ErrNone {
			t.Errorf("Change(%d, 5) of a new one: %d, want ErrNone", a, err)
		}
	}
	x.same()
	if id := x.make(); id != 0 {
		t.Errorf("Make: %d, want 0", id)
	}
	x.same()
}

// P12.1 to P12.4: the errors of nil objects come ahead of all others, and nothing else is told.
func TestNil(t *testing.T) {
	var o *object.Objects
	for range 3 {
		if id := o.Make(); id != 0 {
			t.Errorf("Make: %d, want 0", id)
		}
	}
	if n := o.Len(); n != 0 {
		t.Errorf("Len: %d, want 0", n)
	}
	for _, a := range sorts {
		if err := o.Hold(a); err != api.ErrNil {
			t.Errorf("Hold(%d): %d, want ErrNil", a, err)
		}
		if l, err := o.Drop(a); len(l) != 0 || err != api.ErrNil {
			t.Errorf("Drop(%d): %v, %d; want ErrNil", a, l, err)
		}
		if l := o.Frames(a); len(l) != 0 {
			t.Errorf("Frames(%d): %v, want none", a, l)
		}
		if id, page, err := o.Owner(a); id != 0 || page != 0 || err != api.ErrNil {
			t.Errorf("Owner(%d): %d, %d, %d; want ErrNil", a, id, page, err)
		}
		for _, b := range sorts {
			if frame, err := o.Frame(a, b); frame != 0 || err != api.ErrNil {
				t.Errorf("Frame(%d, %d): %d, %d; want ErrNil", a, b, frame, err)
			}
			if err := o.Change(a, b); err != api.ErrNil {
				t.Errorf("Change(%d, %d): %d, want ErrNil", a, b, err)
			}
			for _, c := range sorts {
				if err := o.Set(a, b, c); err != api.ErrNil {
					t.Errorf("Set(%d, %d, %d): %d, want ErrNil", a, b, c, err)
				}
			}
		}
	}
}

// P12.1: numbers go on as objects are made, whether those ahead are held or not.
func TestMake(t *testing.T) {
	x := newPair(t, 0)
	for i := range 200 {
		if id := x.make(); id != i {
			t.Fatalf("Make: %d, want %d", id, i)
		}
		x.set(i, 4095-i, i)
		if i%3 == 0 {
			x.drop(i)
		}
		if i%7 == 0 && i%3 != 0 {
			x.drop(i / 2)
		}
	}
	x.same()
	for i := range 200 {
		x.drop(i)
	}
	x.same()
	if id := x.make(); id != 200 {
		t.Errorf("Make when all are gone: %d, want 200", id)
	}
	x.same()
}

// P12.1, P12.6: an object is there as long as it was held once more than dropped, in whatever order.
func TestHeld(t *testing.T) {
	for most := range 12 {
		for way := range 1 << most {
			x := newPair(t, 2, stand{0, 3, 9}, stand{0, 2, 4}, stand{1, 3, 5})
			held := 1
			for i := range most {
				if held == 0 {
					break
				}
				if way>>i&1 == 1 {
					x.hold(0)
					held++
					continue
				}
				l, err := x.drop(0)
				held--
				if held > 0 && len(l) != 0 || held == 0 && !slices.Equal(l, []int{4, 9}) || err != api.OK {
					t.Fatalf("Drop(0) when %d are left: %v, %d", held, l, err)
				}
			}
			if n := x.o.Len(); n != 1+min(held, 1) {
				t.Fatalf("held %d times, Len: %d", held, n)
			}
			for range held {
				x.drop(0)
			}
			if err := x.hold(0); err != api.ErrNone {
				t.Fatalf("Hold(0) of what is gone: %d, want ErrNone", err)
			}
			if l := x.o.Frames(1); !slices.Equal(l, []int{5}) {
				t.Fatalf("Frames(1): %v, want 5", l)
			}
		}
	}
}

// P12.6: held many times, dropped as often.
func TestHeldOften(t *testing.T) {
	x := newPair(t, 1, stand{0, 0, 1023})
	for range 5000 {
		x.hold(0)
	}
	for range 5000 {
		if l, err := x.drop(0); len(l) != 0 || err != api.OK {
			t.Fatalf("Drop(0): %v, %d; want no frames", l, err)
		}
	}
	x.same()
	if l, _ := x.drop(0); !slices.Equal(l, []int{1023}) {
		t.Errorf("the last Drop(0): %v, want 1023", l)
	}
	x.same()
}

// P12.1, P12.4: an object that has no frames is there, and tells none when it goes.
func TestBare(t *testing.T) {
	x := newPair(t, 3, stand{1, 0, 0})
	if l := x.o.Frames(0); len(l) != 0 {
		t.Errorf("Frames(0): %v, want none", l)
	}
	if l, err := x.drop(0); len(l) != 0 || err != api.OK {
		t.Errorf("Drop(0): %v, %d; want none, OK", l, err)
	}
	if n := x.o.Len(); n != 2 {
		t.Errorf("Len: %d, want 2", n)
	}
	x.same()
}

// P12.1 with numbers of all sorts: only an object that is there is held and dropped; else nothing is changed.
func TestHoldSorts(t *testing.T) {
	for _, id := range sorts {
		x := newPair(t, 5, stand{0, 0, 1}, stand{2, 2, 2}, stand{3, 1, 3}, stand{4, 4, 4})
		x.drop(3)
		want := api.ErrNone
		if id >= 0 && id < 5 && id != 3 {
			want = api.OK
		}
		before := x.shot()
		if err := x.hold(id); err != want {
			t.Errorf("Hold(%d): %d, want %d", id, err, want)
		}
		if l, err := x.drop(id); len(l) != 0 || err != want {
			t.Errorf("Drop(%d): %v, %d; want none, %d", id, l, err, want)
		}
		if !x.shot().like(before) {
			t.Errorf("Hold(%d) and Drop: %v; was %v", id, x.shot(), before)
		}
		x.drop(id)
		x.same()
	}
}

// P12.1: what is gone gives its frames back: others' pages may stand in them, under its number nothing more.
func TestGone(t *testing.T) {
	x := newPair(t, 2, stand{0, 3, 9}, stand{0, 0, 0}, stand{0, 4095, 1023}, stand{1, 3, 8})
	if l, _ := x.drop(0); !slices.Equal(l, []int{0, 9, 1023}) {
		t.Errorf("Drop(0): %v, want 0, 9, 1023", l)
	}
	x.same()
	if err := x.set(0, 3, 9); err != api.ErrNone {
		t.Errorf("Set(0, 3, 9): %d, want ErrNone", err)
	}
	if err := x.set(0, -1, 8); err != api.ErrNone {
		t.Errorf("Set(0, -1, 8): %d, want ErrNone", err)
	}
	if frame, err := x.o.Frame(0, 3); frame != 0 || err != api.ErrNone {
		t.Errorf("Frame(0, 3): %d, %d; want ErrNone", frame, err)
	}
	if err := x.change(9, 10); err != api.ErrNone {
		t.Errorf("Change(9, 10): %d, want ErrNone", err)
	}
	for i, frame := range []int{9, 0, 1023} {
		if err := x.set(1, i, frame); err != api.OK {
			t.Errorf("Set(1, %d, %d): %d", i, frame, err)
		}
	}
	if err := x.change(8, 7); err != api.OK {
		t.Errorf("Change(8, 7): %d", err)
	}
	id := x.make()
	x.set(id, 3, 8)
	x.same()
}

// P12.2: where a page may stand; where it may not, nothing is changed.
func TestSetEdges(t *testing.T) {
	for _, x := range []struct {
		id, page, frame int
		want            api.Errno
	}{
		{0, 0, 0, api.OK},
		{0, 4095, 1023, api.OK},
		{0, 4, 10, api.OK},
		{0, 2, 8, api.OK},
		{1, 3, 10, api.OK},
		{1, 9, 3, api.OK},
		{3, 3, 8, api.OK},
		{0, -1, 8, api.ErrRange},
		{0, 4096, 8, api.ErrRange},
		{0, math.MinInt, 8, api.ErrRange},
		{0, math.MaxInt, 8, api.ErrRange},
		{0, 1<<32 + 4, 8, api.ErrRange},
		{0, 4, -1, api.ErrRange},
		{0, 4, 1024, api.ErrRange},
		{0, 4, math.MinInt, api.ErrRange},
		{0, 4, math.MaxInt, api.ErrRange},
		{0, 4, 1<<32 + 8, api.ErrRange},
		{0, -1, 1024, api.ErrRange},
		{0, 4096, 9, api.ErrRange},
		{0, 3, 1024, api.ErrRange},
		{0, 3, -1, api.ErrRange},
		{0, 3, 8, api.ErrExist},
		{0, 3, 9, api.ErrExist},
		{0, 3, 20, api.ErrExist},
		{0, 4, 9, api.ErrExist},
		{1, 3, 9, api.ErrExist},
		{1, 0, 0, api.OK},
		{1, 5, 20, api.ErrExist},
		{1, 6, 20, api.ErrExist},
		{2, 0, 0, api.ErrNone},
		{2, 3, 9, api.ErrNone},
		{2, -1, 1024, api.ErrNone},
		{4, 0, 0, api.ErrNone},
		{-1, 0, 0, api.ErrNone},
		{-1, 4096, -1, api.ErrNone},
		{-1, 3, 9, api.ErrNone},
		{math.MinInt, 0, 0, api.ErrNone},
		{math.MaxInt, 0, 0, api.ErrNone},
		{1 << 32, 0, 0, api.ErrNone},
	} {
		p := newPair(t, 4, stand{0, 3, 9}, stand{1, 5, 20}, stand{2, 0, 500})
		p.drop(2)
		before := p.shot()
		if err := p.set(x.id, x.page, x.frame); err != x.want {
			t.Errorf("Set(%d, %d, %d): %d, want %d", x.id, x.page, x.frame, err, x.want)
		}
		p.same()
		if x.want != api.OK {
			if !p.shot().like(before) {
				t.Errorf("Set(%d, %d, %d): %v; was %v", x.id, x.page, x.frame, p.shot(), before)
			}
			continue
		}
		if frame, err := p.o.Frame(x.id, x.page); frame != x.frame || err != api.OK {
			t.Errorf("Frame(%d, %d): %d, %d; want %d", x.id, x.page, frame, err, x.frame)
		}
		if id, page, err := p.o.Owner(x.frame); id != x.id || page != x.page || err != api.OK {
			t.Errorf("Owner(%d): %d, %d, %d; want %d, %d", x.frame, id, page, err, x.id, x.page)
		}
		if err := p.set(x.id, x.page, x.frame); err != api.ErrExist {
			t.Errorf("Set(%d, %d, %d) again: %d, want ErrExist", x.id, x.page, x.frame, err)
		}
	}
}

// P12.2 with numbers of all sorts in all places, each tried by itself.
func TestSetSorts(t *testing.T) {
	x := newPair(t, 5)
	x.drop(3)
	for _, id := range sorts {
		for _, page := range sorts {
			for _, frame := range sorts {
				want := api.OK
				switch {
				case id < 0 || id > 4 || id == 3:
					want = api.ErrNone
				case page < 0 || page > 4095 || frame < 0 || frame > 1023:
					want = api.ErrRange
				}
				if err := x.o.Set(id, page, frame); err != want {
					t.Fatalf("Set(%d, %d, %d): %d, want %d", id, page, frame, err, want)
				}
				if want != api.OK {
					continue
				}
				if l, err := x.o.Drop(id); !slices.Equal(l, []int{frame}) || err != api.OK {
					t.Fatalf("Set(%d, %d, %d), Drop: %v, %d", id, page, frame, l, err)
				}
				x = newPair(t, 5)
				x.drop(3)
			}
		}
	}
	x.same()
}

// P12.2: every page of an object may stand in every frame, first ones and last ones, as they come.
func TestSetAll(t *testing.T) {
	c := chance(7)
	x := newPair(t, 1)
	pages, frames := c.mix(4096), c.mix(1024)
	for i, frame := range frames {
		if err := x.o.Set(0, pages[i], frame); err != api.OK {
			t.Fatalf("Set(0, %d, %d): %d", pages[i], frame, err)
		}
		x.m.set(0, pages[i], frame)
	}
	x.same()
	x.make()
	for page := range 4096 {
		if err := x.o.Set(1, page, page%1024); err != api.ErrExist {
			t.Fatalf("Set(1, %d, %d): %d, want ErrExist", page, page%1024, err)
		}
		if err := x.o.Set(1, page, 1024); err != api.ErrRange {
			t.Fatalf("Set(1, %d, 1024): %d, want ErrRange", page, err)
		}
	}
	for i, frame := range frames {
		if err := x.o.Change(frame, frames[(i+1)%1024]); err != api.ErrExist {
			t.Fatalf("Change(%d, %d): %d, want ErrExist", frame, frames[(i+1)%1024], err)
		}
	}
	x.same()
	l, err := x.drop(0)
	if len(l) != 1024 || !slices.IsSorted(l) || l[0] != 0 || l[1023] != 1023 || err != api.OK {
		t.Errorf("Drop(0): %d frames, %d; want all, rising", len(l), err)
	}
	x.same()
}

// P12.1, P12.4: in whatever order pages come, frames rise.
func TestFramesRise(t *testing.T) {
	frames := []int{0, 9, 10, 255, 256, 1023}
	orders(len(frames), func(l []int) {
		x := newPair(t, 1)
		for page, i := range l {
			x.set(0, page, frames[i])
		}
		if got := x.o.Frames(0); !slices.Equal(got, frames) {
			t.Fatalf("Frames: %v, want %v", got, frames)
		}
		if got, _ := x.drop(0); !slices.Equal(got, frames) {
			t.Fatalf("Drop: %v, want %v", got, frames)
		}
	})
}

// P12.3: where a page may go; where it may not, nothing is changed.
func TestChangeEdges(t *testing.T) {
	for _, x := range []struct {
		from, to int
		want     api.Errno
	}{
		{9, 10, api.OK},
		{9, 8, api.OK},
		{9, 0, api.OK},
		{9, 1023, api.OK},
		{9, 500, api.OK},
		{20, 19, api.OK},
		{9, -1, api.ErrRange},
		{9, 1024, api.ErrRange},
		{9, math.MinInt, api.ErrRange},
		{9, math.MaxInt, api.ErrRange},
		{9, 1<<32 + 10, api.ErrRange},
		{9, 9, api.ErrExist},
		{9, 20, api.ErrExist},
		{9, 21, api.ErrExist},
		{20, 9, api.ErrExist},
		{20, 21, api.ErrExist},
		{21, 21, api.ErrExist},
		{10, 11, api.ErrNone},
		{10, 9, api.ErrNone},
		{10, -1, api.ErrNone},
		{10, 1024, api.ErrNone},
		{10, 10, api.ErrNone},
		{500, 9, api.ErrNone},
		{500, 10, api.ErrNone},
		{0, 10, api.ErrNone},
		{3, 10, api.ErrNone},
		{-1, 10, api.ErrNone},
		{-1, -1, api.ErrNone},
		{1024, 10, api.ErrNone},
		{1024, 1024, api.ErrNone},
		{1<<32 + 9, 10, api.ErrNone},
		{math.MinInt, 9, api.ErrNone},
		{math.MaxInt, math.MaxInt, api.ErrNone},
	} {
		p := newPair(t, 3, stand{0, 3, 9}, stand{1, 3, 20}, stand{1, 0, 21}, stand{2, 0, 500})
		p.drop(2)
		before := p.shot()
		if err := p.change(x.from, x.to); err != x.want {
			t.Errorf("Change(%d, %d): %d, want %d", x.from, x.to, err, x.want)
		}
		p.same()
		if x.want != api.OK {
			if !p.shot().like(before) {
				t.Errorf("Change(%d, %d): %v; was %v", x.from, x.to, p.shot(), before)
			}
			continue
		}
		if err := p.change(x.from, x.to); err != api.ErrNone {
			t.Errorf("Change(%d, %d) again: %d, want ErrNone", x.from, x.to, err)
		}
		if err := p.change(x.to, x.from); err != api.OK {
			t.Errorf("Change(%d, %d): %d", x.to, x.from, err)
		}
		if !p.shot().like(before) {
			t.Errorf("Change(%d, %d) and back: %v; was %v", x.from, x.to, p.shot(), before)
		}
	}
}

// P12.3 with numbers of all sorts, of few pages that stand in frames and of many.
func TestChangeSorts(t *testing.T) {
	for _, many := range []int{1, 5, 60} {
		x := newPair(t, 3)
		for i := range many {
			x.set(i%3, i, i*16)
			x.set(i%2, 4095-i, 1023-i*16)
		}
		for _, from := range sorts {
			for _, to := range sorts {
				x.change(from, to)
			}
		}
		x.same()
	}
}

// P12.3: what went from a frame leaves it free for others, and takes its page along to where it goes, through all frames.
func TestChangeOn(t *testing.T) {
	x := newPair(t, 2, stand{0, 7, 0})
	for frame := range 1023 {
		if err := x.change(frame, frame+1); err != api.OK {
			t.Fatalf("Change(%d, %d): %d", frame, frame+1, err)
		}
		if err := x.set(1, frame, frame); err != api.OK {
			t.Fatalf("Set(1, %d, %d): %d", frame, frame, err)
		}
	}
	x.same()
	if l := x.o.Frames(0); !slices.Equal(l, []int{1023}) {
		t.Errorf("Frames(0): %v, want 1023", l)
	}
	if frame, err := x.o.Frame(0, 7); frame != 1023 || err != api.OK {
		t.Errorf("Frame(0, 7): %d, %d; want 1023", frame, err)
	}
	if l, err := x.drop(1); len(l) != 1023 || err != api.OK {
		t.Errorf("Drop(1): %d frames, %d; want 1023", len(l), err)
	}
	if l, err := x.drop(0); !slices.Equal(l, []int{1023}) || err != api.OK {
		t.Errorf("Drop(0): %v, %d; want 1023", l, err)
	}
	x.same()
}

// R3: what is told is new memory, and stays as it was told.
func TestToldNew(t *testing.T) {
	for n := range 40 {
		x := newPair(t, 2)
		for i := range n {
			x.set(0, i, 5*i)
			x.set(1, i, 5*i+1)
		}
		frames, more := x.o.Frames(0), x.o.Frames(0)
		for i := range frames {
			frames[i] = -9
		}
		_ = append(frames, -8)
		x.same()
		if slices.Contains(more, -9) {
			t.Errorf("two answers share their memory: %v", more)
		}
		want := slices.Clone(more)
		x.set(0, 4000, 1000)
		x.change(0, 999)
		last, _ := x.drop(0)
		wantLast := slices.Clone(last)
		for i := range n {
			x.set(1, 100+i, 5*i)
		}
		x.drop(1)
		if !slices.Equal(more, want) || !slices.Equal(last, wantLast) {
			t.Errorf("what was told became %v, %v; was %v, %v", more, last, want, wantLast)
		}
		for i := range last {
			last[i] = -9
		}
		_ = append(last, -8)
		x.same()
	}
}

// step does one of all calls, mostly ones that may be.
func (x pair) step(c *chance, ids, pages, frames int) {
	x.t.Helper()
	id, page, frame := c.below(ids+2)-1, c.below(pages), c.below(frames)
	if len(x.m.held) > ids {
		id += len(x.m.held) - ids
	}
	switch c.below(16) {
	case 0, 1:
		x.make()
	case 2:
		x.hold(id)
	case 3, 4:
		x.drop(id)
	case 5:
		x.set(c.below(len(x.m.held)+4)-2, c.below(4100)-2, c.below(1028)-2)
	case 6:
		x.change(c.below(frames+4)-2, c.below(1028)-2)
	case 7, 8:
		if len(x.m.stands) > 0 {
			x.change(x.m.stands[c.below(len(x.m.stands))].frame, frame)
		}
	default:
		x.set(id, page, frame)
	}
}

// P12.1 to P12.6: long rows of calls, of few objects, pages and frames and of many.
func TestRows(t *testing.T) {
	c := chance(1)
	for _, ids := range []int{1, 2, 5, 30} {
		for _, pages := range []int{1, 3, 40, 4096} {
			for _, frames := range []int{1, 3, 40, 1024} {
				x := newPair(t, 0)
				for i := range 400 {
					x.step(&c, ids, pages, frames)
					if i%100 == 0 {
						x.same()
					}
				}
				x.same()
				for id := range x.m.held {
					for x.m.there(id) {
						x.drop(id)
					}
				}
				x.same()
				if len(x.m.stands) != 0 || x.o.Len() != 0 {
					t.Fatalf("all are dropped, but %v stand, and Len: %d", x.m.stands, x.o.Len())
				}
			}
		}
	}
}

// R4: two know nothing of each other, and answer alike what was done alike.
func TestTwo(t *testing.T) {
	x, y := newPair(t, 0), newPair(t, 0)
	c, d := chance(3), chance(3)
	for range 400 {
		x.step(&c, 6, 12, 40)
	}
	y.same()
	if x.o.Len() == 0 || y.o.Len() != 0 {
		t.Errorf("%d and %d objects", x.o.Len(), y.o.Len())
	}
	for range 400 {
		y.step(&d, 6, 12, 40)
	}
	x.same()
	y.same()
	if !x.shot().like(y.shot()) {
		t.Errorf("%v and %v", x.shot(), y.shot())
	}
}
