package area_test

import (
	"math"
	"slices"
	"testing"

	"pantile/api"
	"pantile/area"
)

// Numbers of all sorts: around 0, blocks of eight and of 64 pages, the ends of pages, and of what a number can be.
var sorts = []int{
	math.MinInt, math.MinInt + 1, math.MinInt + 4096, math.MinInt / 2, -1 << 32, -4096, -64, -8, -1,
	0, 1, 2, 7, 8, 9, 16, 63, 64, 65, 128, 4031, 4032, 4033, 4087, 4088, 4089, 4094, 4095, 4096, 4097, 4160,
	1 << 16, 1 << 32, 1<<32 + 8, math.MaxInt / 2, math.MaxInt/2 + 1, math.MaxInt - 4095, math.MaxInt - 63, math.MaxInt - 7, math.MaxInt - 1, math.MaxInt,
}

// cell is what a page is in; one that is in no area has no how.
type cell struct {
	object         int
	how, prot, off int16
}

// model says the chapter's words of single pages: an area is as many of them as go on alike.
type model [4096]cell

// sizes: pages of one of an area's pages, by how.
var sizes = [7]int{1, 1, 1, 8, 64, 8, 8}

func (c cell) ofObject() bool { return c.how == 2 || c.how == 5 }

// runs tells the areas of the pages from one on, ahead of another.
func (m *model) runs(from, to int) []api.Area {
	var l []api.Area
	for page := max(from, 0); page < min(to, 4096); page++ {
		c := m[page]
		if c.how == 0 {
			continue
		}
		next := cell{}
		if page > max(from, 0) {
			next = m[page-1]
			if next.ofObject() {
				next.off++
			}
		}
		if c == next {
			l[len(l)-1].To++
		} else {
			l = append(l, api.Area{From: page, To: page + 1, How: int(c.how), Prot: int(c.prot), Object: c.object, Off: int(c.off)})
		}
	}
	return l
}

// right says P3.3 of blocks of so many pages.
func right(at, n, size int) api.Errno {
	switch {
	case n < 1 || at%size != 0 || n%size != 0:
		return api.ErrArg
	case at < 1 || at > 4095 || n > 4095 || at+n > 4096:
		return api.ErrRange
	}
	return api.OK
}

// badMap says what is wrong with a Map in a space without areas (P11.1).
func badMap(at, n, how, prot, object int) api.Errno {
	if how < 1 || how > 6 || prot != 0 && prot != 1 && prot != 3 || prot == 0 && how > 2 {
		return api.ErrArg
	}
	if object < 0 || object != 0 && how != 2 && how != 5 {
		return api.ErrArg
	}
	return right(at, n, sizes[how])
}

// change lets the pages be others, if there are not too many areas then.
func (m *model) change(others *model) api.Errno {
	if len(others.runs(0, 4096)) > 64 {
		return api.ErrFull
	}
	*m = *others
	return api.OK
}

// taken tells how many pages of a stretch are in areas.
func (m *model) taken(at, n int) int {
	k := 0
	for _, c := range m[at : at+n] {
		if c.how != 0 {
			k++
		}
	}
	return k
}

// great tells whether a page of a stretch is part of a huge or giant one.
func (m *model) great(at, n int) bool {
	return slices.ContainsFunc(m[at:at+n], func(c cell) bool { return c.how > 2 })
}

// cuts says when a stretch cuts a huge page.
func (m *model) cuts(at, n int) bool {
	return at%sizes[m[at].how] != 0 || at+n < 4096 && (at+n)%sizes[m[at+n].how] != 0
}

// mapped says P11.1.
func (m *model) mapped(at, n, how, prot, object int) api.Errno {
	if err := badMap(at, n, how, prot, object); err != api.OK {
		return err
	}
	if m.taken(at, n) > 0 {
		return api.ErrExist
	}
	others := *m
	for i := range n {
		c := cell{how: int16(how), prot: int16(prot), object: object}
		if c.ofObject() {
			c.off = int16(i)
		}
		others[at+i] = c
	}
	return m.change(&others)
}

// unmap says P11.2.
func (m *model) unmap(at, n int) ([]api.Area, api.Errno) {
	if err := right(at, n, 1); err != api.OK {
		return nil, err
	}
	if m.cuts(at, n) {
		return nil, api.ErrArg
	}
	l, others := m.runs(at, at+n), *m
	clear(others[at : at+n])
	if err := m.change(&others); err != api.OK {
		return nil, err
	}
	return l, api.OK
}

// protect says P11.2.
func (m *model) protect(at, n, prot int) ([]api.Area, api.Errno) {
	if err := right(at, n, 1); err != api.OK {
		return nil, err
	}
	if prot != 0 && prot != 1 && prot != 3 {
		return nil, api.ErrArg
	}
	if m.taken(at, n) < n {
		return nil, api.ErrNone
	}
	if m.cuts(at, n) || prot == 0 && m.great(at, n) {
		return nil, api.ErrArg
	}
	l, others := m.runs(at, at+n), *m
	for page := at; page < at+n; page++ {
		others[page].prot = int16(prot)
	}
	if err := m.change(&others); err != api.OK {
		return nil, err
	}
	return l, api.OK
}

// move says P11.3.
func (m *model) move(at, n, to int) ([]api.Area, api.Errno) {
	if err := right(at, n, 1); err != api.OK {
		return nil, err
	}
	if err := right(to, n, 1); err != api.OK {
		return nil, err
	}
	if max(at, to) < min(at, to)+n {
		return nil, api.ErrArg
	}
	if m.taken(at, n) < n {
		return nil, api.ErrNone
	}
	if m.great(at, n) {
		return nil, api.ErrArg
	}
	if m.taken(to, n) > 0 {
		return nil, api.ErrExist
	}
	l, others := m.runs(at, at+n), *m
	copy(others[to:], m[at:at+n])
	clear(others[at : at+n])
	if err := m.change(&others); err != api.OK {
		return nil, err
	}
	return l, api.OK
}

// pair is a space's areas, and what they should be.
type pair struct {
	t *testing.T
	a *area.Areas
	m *model
}

// trial makes a function that does calls of which each finds all as it was.
func (x pair) trial() func(call func(pair) api.Errno) {
	was := *x.m
	return func(call func(pair) api.Errno) {
		x.t.Helper()
		if call(pair{x.t, x.a.Clone(), x.m}) == api.OK {
			*x.m = was
		}
	}
}

// made is an area that is to be made.
type made struct{ at, n, how, prot, object int }

func newPair(t *testing.T, l ...made) pair {
	t.Helper()
	a := area.New()
	if a == nil {
		t.Fatal("New: nil")
	}
	x := pair{t, a, &model{}}
	for _, m := range l {
		if err := x.mapped(m.at, m.n, m.how, m.prot, m.object); err != api.OK {
			t.Fatalf("Map(%v): %d", m, err)
		}
	}
	return x
}

// twin is another pair that is alike.
func (x pair) twin() pair {
	m := *x.m
	return pair{x.t, x.a.Clone(), &m}
}

// after holds what a call answered, and all areas, against the model's.
func (x pair) after(what string, args, l, want []api.Area, err, wantErr api.Errno) {
	x.t.Helper()
	if err != wantErr {
		x.t.Fatalf("%s(%v): %d, want %d", what, args, err, wantErr)
	}
	if err != api.OK && l != nil || !slices.Equal(l, want) {
		x.t.Fatalf("%s(%v): %v, want %v", what, args, l, want)
	}
	x.all()
}

// args tells a call's numbers as an area, to be shown.
func args(at, n, more int) []api.Area { return []api.Area{{From: at, To: n, Off: more}} }

func (x pair) mapped(at, n, how, prot, object int) api.Errno {
	x.t.Helper()
	err, want := x.a.Map(at, n, how, prot, object), x.m.mapped(at, n, how, prot, object)
	x.after("Map", []api.Area{{From: at, To: n, How: how, Prot: prot, Object: object}}, nil, nil, err, want)
	return err
}

func (x pair) unmap(at, n int) api.Errno {
	x.t.Helper()
	l, err := x.a.Unmap(at, n)
	want, wantErr := x.m.unmap(at, n)
	x.after("Unmap", args(at, n, 0), l, want, err, wantErr)
	return err
}

func (x pair) protect(at, n, prot int) api.Errno {
	x.t.Helper()
	l, err := x.a.Protect(at, n, prot)
	want, wantErr := x.m.protect(at, n, prot)
	x.after("Protect", args(at, n, prot), l, want, err, wantErr)
	return err
}

func (x pair) move(at, n, to int) api.Errno {
	x.t.Helper()
	l, err := x.a.Move(at, n, to)
	want, wantErr := x.m.move(at, n, to)
	x.after("Move", args(at, n, to), l, want, err, wantErr)
	return err
}

// joins says the chapter's words of two areas that stand one behind the other.
func joins(a, b api.Area) bool {
	alike := a.To == b.From && a.How == b.How && a.Prot == b.Prot && a.Object == b.Object
	if a.How == api.Shared || a.How == api.SharedHuge {
		return alike && b.Off == a.Off+a.To-a.From
	}
	return alike
}

// all holds All against the model, and P11.6 by its own words.
func (x pair) all() {
	x.t.Helper()
	l := x.a.All()
	if want := x.m.runs(0, 4096); !slices.Equal(l, want) {
		x.t.Fatalf("All: %v, want %v", l, want)
	}
	if len(l) > 64 {
		x.t.Fatalf("%d areas", len(l))
	}
	for i, b := range l {
		if b.From < 1 || b.From >= b.To || b.To > 4096 || i > 0 && (l[i-1].To > b.From || joins(l[i-1], b)) {
			x.t.Fatalf("the area %d: %v", i, l)
		}
	}
}

// looks asks of a stretch all there is to ask.
func (x pair) looks(at, n int) {
	x.t.Helper()
	wantErr := right(at, n, 1)
	var want []api.Area
	covers, cuts := false, false
	if wantErr == api.OK {
		want = x.m.runs(at, at+n)
		covers, cuts = x.m.taken(at, n) == n, x.m.cuts(at, n)
	}
	l, err := x.a.Pieces(at, n)
	if err != wantErr || err != api.OK && l != nil || !slices.Equal(l, want) {
		x.t.Fatalf("Pieces(%d, %d): %v, %d; want %v, %d", at, n, l, err, want, wantErr)
	}
	if got := x.a.Covers(at, n); got != covers {
		x.t.Fatalf("Covers(%d, %d): %v of %v", at, n, got, x.a.All())
	}
	if got := x.a.Cuts(at, n); got != cuts {
		x.t.Fatalf("Cuts(%d, %d): %v of %v", at, n, got, x.a.All())
	}
}

// find holds a page's area against all areas.
func (x pair) find(l []api.Area, page int) {
	x.t.Helper()
	want := api.Area{}
	for _, b := range l {
		if b.From <= page && page < b.To {
			want = b
		}
	}
	if got, ok := x.a.Find(page); got != want || ok != (want.How != 0) {
		x.t.Fatalf("Find(%d): %v, %v; want %v", page, got, ok, want)
	}
}

// same asks all pages, and the stretches from and to the areas' edges and numbers of all sorts; asking changes nothing.
func (x pair) same() {
	x.t.Helper()
	x.all()
	l := x.m.runs(0, 4096)
	for page := -9; page < 4106; page++ {
		x.find(l, page)
	}
	var edges []int
	for i, b := range l {
		if i%(1+len(l)/8) == 0 {
			edges = append(edges, b.From-1, b.From, b.From+1, b.To-1, b.To, b.To+1)
		}
	}
	for _, at := range sorts {
		x.find(l, at)
		for _, n := range sorts {
			x.looks(at, n)
		}
	}
	for _, at := range edges {
		for _, to := range edges {
			x.looks(at, to-at)
		}
	}
	x.all()
}

// chance makes numbers in a row that always is the same.
type chance uint64

func (c *chance) below(n int) int {
	*c = *c*6364136223846793005 + 1442695040888963407
	return int(uint64(*c) >> 33 % uint64(n))
}

// The chapter's example, and what it tells by the way.
func TestExample(t *testing.T) {
	a := area.New()
	if err := a.Map(8, 8, api.Private, 3, 0); err != api.OK {
		t.Fatalf("Map: %d", err)
	}
	l, err := a.Unmap(10, 2)
	if err != api.OK || !slices.Equal(l, []api.Area{{From: 10, To: 12, How: 1, Prot: 3}}) {
		t.Errorf("Unmap: %v, %d", l, err)
	}
	if l := a.All(); !slices.Equal(l, []api.Area{{From: 8, To: 10, How: 1, Prot: 3}, {From: 12, To: 16, How: 1, Prot: 3}}) {
		t.Errorf("All: %v", l)
	}
	if err := a.Map(10, 2, api.Private, 3, 0); err != api.OK {
		t.Errorf("Map: %d", err)
	}
	if l := a.All(); !slices.Equal(l, []api.Area{{From: 8, To: 16, How: 1, Prot: 3}}) {
		t.Errorf("All: %v", l)
	}
}

// The chapter's words, on one space with areas of all kinds.
func TestWritten(t *testing.T) {
	a := area.New()
	for _, m := range []made{{4, 4, 2, 3, 7}, {8, 8, 5, 3, 7}, {16, 16, 3, 1, 0}, {64, 64, 4, 3, 0}, {128, 8, 6, 3, 0}, {136, 4, 1, 0, 0}} {
		if err := a.Map(m.at, m.n, m.how, m.prot, m.object); err != api.OK {
			t.Fatalf("Map(%v): %d", m, err)
		}
	}
	l, err := a.Unmap(6, 10)
	if err != api.OK || !slices.Equal(l, []api.Area{{From: 6, To: 8, How: 2, Prot: 3, Object: 7, Off: 2}, {From: 8, To: 16, How: 5, Prot: 3, Object: 7}}) {
		t.Errorf("Unmap(6, 10): %v, %d", l, err)
	}
	l, err = a.Protect(16, 8, 3)
	if err != api.OK || !slices.Equal(l, []api.Area{{From: 16, To: 24, How: 3, Prot: 1}}) {
		t.Errorf("Protect(16, 8, 3): %v, %d", l, err)
	}
	l, err = a.Move(5, 1, 200)
	if err != api.OK || !slices.Equal(l, []api.Area{{From: 5, To: 6, How: 2, Prot: 3, Object: 7, Off: 1}}) {
		t.Errorf("Move(5, 1, 200): %v, %d", l, err)
	}
	want := []api.Area{
		{From: 4, To: 5, How: 2, Prot: 3, Object: 7}, {From: 16, To: 24, How: 3, Prot: 3}, {From: 24, To: 32, How: 3, Prot: 1},
		{From: 64, To: 128, How: 4, Prot: 3}, {From: 128, To: 136, How: 6, Prot: 3}, {From: 136, To: 140, How: 1}, {From: 200, To: 201, How: 2, Prot: 3, Object: 7, Off: 1},
	}
	if l := a.All(); !slices.Equal(l, want) {
		t.Errorf("All: %v, want %v", l, want)
	}
	if l := a.Copy().All(); !slices.Equal(l, []api.Area{want[0], want[5], want[6]}) {
		t.Errorf("Copy: %v", l)
	}
	if !a.Cuts(100, 4) || !a.Cuts(64, 8) || !a.Cuts(60, 8) || !a.Cuts(30, 40) || a.Cuts(64, 64) || a.Cuts(16, 8) {
		t.Error("Cuts")
	}
	if !a.Covers(64, 76) || a.Covers(64, 77) || a.Covers(63, 2) {
		t.Error("Covers")
	}
	if b, ok := a.Find(139); !ok || b != want[5] {
		t.Errorf("Find(139): %v, %v", b, ok)
	}
}

// A new space has no area.
func TestNew(t *testing.T) {
	x := newPair(t)
	x.same()
	if l := x.a.All(); len(l) != 0 {
		t.Errorf("All: %v", l)
	}
	for _, c := range []*area.Areas{x.a.Copy(), x.a.Clone()} {
		pair{t, c, &model{}}.same()
	}
	x.unmap(8, 8)
	x.unmap(1, 4095)
	x.protect(8, 8, 3)
	x.move(8, 8, 16)
	x.same()
}

// P11.4, and ErrNil ahead of all else.
func TestNil(t *testing.T) {
	var a *area.Areas
	for _, at := range sorts {
		for _, n := range sorts {
			for _, more := range []int{math.MinInt, -1, 0, 1, 2, 3, 8, math.MaxInt} {
				if err := a.Map(at, n, more, more, 0); err != api.ErrNil {
					t.Errorf("Map: %d, want ErrNil", err)
				}
				if l, err := a.Protect(at, n, more); l != nil || err != api.ErrNil {
					t.Errorf("Protect: %v, %d, want ErrNil", l, err)
				}
				if l, err := a.Move(at, n, more); l != nil || err != api.ErrNil {
					t.Errorf("Move: %v, %d, want ErrNil", l, err)
				}
			}
			if l, err := a.Unmap(at, n); l != nil || err != api.ErrNil {
				t.Errorf("Unmap: %v, %d, want ErrNil", l, err)
			}
			if l, err := a.Pieces(at, n); l != nil || err != api.ErrNil {
				t.Errorf("Pieces: %v, %d, want ErrNil", l, err)
			}
			if a.Covers(at, n) || a.Cuts(at, n) {
				t.Errorf("Covers or Cuts (%d, %d) of nil", at, n)
			}
		}
		if b, ok := a.Find(at); ok || b != (api.Area{}) {
			t.Errorf("Find(%d): %v, %v", at, b, ok)
		}
	}
	if len(a.All()) != 0 || a.Copy() != nil || a.Clone() != nil {
		t.Errorf("All: %v, Copy: %v, Clone: %v", a.All(), a.Copy(), a.Clone())
	}
}

// P11.1: written rows, with errors in their order; with an error nothing has changed.
func TestMapEdges(t *testing.T) {
	for _, x := range []struct {
		made
		want api.Errno
	}{
		{made{1, 1, 1, 3, 0}, api.OK},
		{made{1, 15, 1, 0, 0}, api.OK},
		{made{24, 4072, 2, 1, 9}, api.OK},
		{made{4095, 1, 2, 0, math.MaxInt}, api.OK},
		{made{24, 8, 2, 3, 0}, api.OK},
		{made{8, 8, 3, 3, 0}, api.OK},
		{made{8, 8, 6, 1, 0}, api.OK},
		{made{4088, 8, 5, 1, 3}, api.OK},
		{made{4032, 64, 4, 1, 0}, api.OK},
		{made{64, 4032, 4, 3, 0}, api.OK},
		{made{24, 4072, 5, 3, 0}, api.OK},
		{made{8, 8, 0, 3, 0}, api.ErrArg},
		{made{8, 8, 7, 3, 0}, api.ErrArg},
		{made{8, 8, -1, 3, 0}, api.ErrArg},
		{made{8, 8, math.MinInt, 3, 0}, api.ErrArg},
		{made{8, 8, math.MaxInt, 3, 0}, api.ErrArg},
		{made{8, 8, 1<<32 + 1, 3, 0}, api.ErrArg},
		{made{8, 8, 1, 2, 0}, api.ErrArg},
		{made{8, 8, 1, 4, 0}, api.ErrArg},
		{made{8, 8, 1, -1, 0}, api.ErrArg},
		{made{8, 8, 1, math.MinInt, 0}, api.ErrArg},
		{made{8, 8, 1, math.MaxInt, 0}, api.ErrArg},
		{made{8, 8, 3, 0, 0}, api.ErrArg},
		{made{64, 64, 4, 0, 0}, api.ErrArg},
		{made{8, 8, 5, 0, 1}, api.ErrArg},
		{made{8, 8, 6, 0, 0}, api.ErrArg},
		{made{8, 8, 1, 3, 1}, api.ErrArg},
		{made{8, 8, 3, 3, 1}, api.ErrArg},
		{made{64, 64, 4, 3, 1}, api.ErrArg},
		{made{8, 8, 6, 3, math.MaxInt}, api.ErrArg},
		{made{8, 8, 1, 3, -1}, api.ErrArg},
		{made{8, 8, 2, 3, -1}, api.ErrArg},
		{made{8, 8, 5, 3, math.MinInt}, api.ErrArg},
		{made{0, 1, 7, 3, 0}, api.ErrArg},
		{made{0, 8, 3, 0, 0}, api.ErrArg},
		{made{16, 8, 1, 2, 0}, api.ErrArg},
		{made{4096, 1, 2, 3, -1}, api.ErrArg},
		{made{8, 0, 1, 3, 0}, api.ErrArg},
		{made{8, -1, 1, 3, 0}, api.ErrArg},
		{made{8, math.MinInt, 1, 3, 0}, api.ErrArg},
		{made{9, 8, 3, 3, 0}, api.ErrArg},
		{made{8, 9, 3, 3, 0}, api.ErrArg},
		{made{12, 8, 5, 3, 0}, api.ErrArg},
		{made{8, 4, 6, 3, 0}, api.ErrArg},
		{made{72, 64, 4, 3, 0}, api.ErrArg},
		{made{64, 72, 4, 3, 0}, api.ErrArg},
		{made{8, 0, 3, 3, 0}, api.ErrArg},
		{made{4096, 4, 3, 3, 0}, api.ErrArg},
		{made{16, 4, 3, 3, 0}, api.ErrArg},
		{made{0, 1, 1, 3, 0}, api.ErrRange},
		{made{0, 8, 3, 3, 0}, api.ErrRange},
		{made{0, 64, 4, 3, 0}, api.ErrRange},
		{made{0, 20, 1, 3, 0}, api.ErrRange},
		{made{-8, 8, 3, 3, 0}, api.ErrRange},
		{made{-1, 20, 1, 3, 0}, api.ErrRange},
		{made{4096, 1, 1, 3, 0}, api.ErrRange},
		{made{4095, 2, 1, 3, 0}, api.ErrRange},
		{made{16, 4088, 1, 3, 0}, api.ErrRange},
		{made{64, 4096, 4, 3, 0}, api.ErrRange},
		{made{8, math.MaxInt, 1, 3, 0}, api.ErrRange},
		{made{math.MaxInt, 1, 1, 3, 0}, api.ErrRange},
		{made{math.MinInt, 1, 1, 3, 0}, api.ErrRange},
		{made{math.MaxInt, math.MaxInt, 1, 3, 0}, api.ErrRange},
		{made{16, 8, 1, 3, 0}, api.ErrExist},
		{made{16, 8, 3, 3, 0}, api.ErrExist},
		{made{15, 2, 1, 3, 0}, api.ErrExist},
		{made{23, 1, 1, 3, 0}, api.ErrExist},
		{made{23, 100, 1, 0, 0}, api.ErrExist},
		{made{1, 4095, 2, 3, 5}, api.ErrExist},
		{made{8, 16, 3, 3, 0}, api.ErrExist},
		{made{16, 8, 2, 1, 4}, api.ErrExist},
		{made{18, 2, 2, 1, 4}, api.ErrExist},
	} {
		p := newPair(t, made{16, 8, 2, 1, 4})
		if err := p.mapped(x.at, x.n, x.how, x.prot, x.object); err != x.want {
			t.Errorf("Map(%v): %d, want %d", x.made, err, x.want)
		}
		p.same()
	}
}

// P11.1 with numbers of all sorts in all places.
func TestMapSorts(t *testing.T) {
	few := []int{math.MinInt, -1, 0, 1, 2, 3, 4, 5, 6, 7, 8, 1 << 32, 1<<32 + 3, math.MaxInt}
	for _, how := range few {
		for _, prot := range few {
			for _, object := range few {
				for _, at := range sorts {
					for _, n := range sorts {
						a := area.New()
						want := badMap(at, n, how, prot, object)
						if err := a.Map(at, n, how, prot, object); err != want {
							t.Fatalf("Map(%d, %d, %d, %d, %d): %d, want %d", at, n, how, prot, object, err, want)
						}
						l := a.All()
						if want != api.OK && len(l) != 0 || want == api.OK && !slices.Equal(l, []api.Area{{From: at, To: at + n, How: how, Prot: prot, Object: object}}) {
							t.Fatalf("Map(%d, %d, %d, %d, %d): %v", at, n, how, prot, object, l)
						}
					}
				}
			}
		}
	}
}

// ways tells all that an area may be, with two objects.
func ways() []made {
	var l []made
	for how := 1; how <= 6; how++ {
		for _, prot := range []int{0, 1, 3} {
			for object := range 3 {
				if badMap(64, 64, how, prot, object) == api.OK {
					l = append(l, made{64, 64, how, prot, object})
				}
			}
		}
	}
	return l
}

// P11.1, P11.6: two areas side by side are one, if they join: whichever is there first, and if what comes between them joins one of them, or both.
func TestMapJoins(t *testing.T) {
	for _, v := range ways() {
		for _, w := range ways() {
			v.at, w.at = 64, 128
			joined := v.how == w.how && v.prot == w.prot && v.how != 2 && v.how != 5
			for _, l := range [][]made{{v, w}, {w, v}} {
				x := newPair(t, l...)
				if got := len(x.a.All()) == 1; got != joined {
					t.Errorf("%v: %v", l, x.a.All())
				}
			}
			w.at = 192
			x := newPair(t, v, w)
			if l := x.a.All(); len(l) != 2 {
				t.Errorf("not side by side: %v", l)
			}
			w.at = 128
			x.mapped(w.at, w.n, w.how, w.prot, w.object)
			if got := len(x.a.All()) == 1; got != joined {
				t.Errorf("%v: %v", w, x.a.All())
			}
		}
	}
}

// P11.1, P11.6: what comes into an object's gap is from its page 0 on, so that it joins what lies behind, if that was behind it, and never what lies ahead.
func TestMapObject(t *testing.T) {
	for how, size := range map[int]int{api.Shared: 1, api.SharedHuge: 8} {
		for gap := 1; gap < 4; gap++ {
			for left := range 3 {
				for object := range 3 {
					x := newPair(t, made{64, 8 * size, how, 3, 1})
					x.unmap(64+left*size, gap*size)
					if err := x.mapped(64+left*size, gap*size, how, 3, object); err != api.OK {
						t.Fatalf("Map: %d", err)
					}
					want := 2 + min(left, 1)
					if left == 0 && object == 1 {
						want = 1
					}
					if l := x.a.All(); len(l) != want {
						t.Errorf("a gap of %d behind %d, of the object %d: %v", gap, left, object, l)
					}
					x.same()
				}
			}
		}
	}
}

// grounds tells spaces in few pages: areas of nearly all kinds, side by side and apart.
func grounds() [][]made {
	return [][]made{
		{{1, 7, 1, 3, 0}, {8, 8, 3, 3, 0}, {16, 2, 2, 3, 0}, {18, 2, 2, 3, 1}, {20, 2, 2, 3, 1}, {24, 8, 5, 1, 2}, {32, 8, 6, 3, 0}, {42, 3, 1, 0, 0}},
		{{2, 2, 2, 3, 5}, {4, 3, 2, 1, 5}, {8, 5, 1, 1, 0}, {13, 5, 1, 3, 0}, {18, 5, 1, 1, 0}, {30, 5, 1, 1, 0}},
		{{8, 16, 3, 1, 0}, {24, 8, 3, 3, 0}, {32, 8, 6, 3, 0}, {40, 1, 1, 3, 0}},
		{{4, 10, 2, 3, 0}, {14, 2, 1, 3, 0}, {16, 24, 5, 3, 7}, {40, 8, 5, 3, 7}},
	}
}

// P11.2 to P11.5: all stretches of a few pages, unmapped, protected and looked at, in a space with areas of all kinds.
func TestStretches(t *testing.T) {
	for _, l := range grounds() {
		x := newPair(t, l...)
		try := x.trial()
		for at := -1; at < 50; at++ {
			for n := -1; at+n < 51; n++ {
				x.looks(at, n)
				try(func(y pair) api.Errno { return y.unmap(at, n) })
				for _, prot := range []int{-1, 0, 1, 2, 3, 4} {
					try(func(y pair) api.Errno { return y.protect(at, n, prot) })
				}
			}
		}
		x.same()
	}
}

// P11.3, P11.5: all stretches of a few pages, moved everywhere.
func TestMoves(t *testing.T) {
	for _, l := range grounds() {
		x := newPair(t, l...)
		try := x.trial()
		for at := range 48 {
			for n := 1; at+n < 49 && n < 12; n++ {
				for to := range 52 {
					try(func(y pair) api.Errno { return y.move(at, n, to) })
				}
			}
		}
		x.same()
	}
}

// P11.2, P11.4: giant pages are cut, too, at both ends, and where a stretch ends with the last page.
func TestGiantCuts(t *testing.T) {
	x := newPair(t, made{64, 128, 4, 3, 0}, made{256, 64, 4, 1, 0}, made{4032, 64, 4, 1, 0}, made{56, 8, 3, 3, 0}, made{320, 8, 5, 3, 1})
	try := x.trial()
	for at := 48; at < 336; at++ {
		for n := 1; n < 280; n++ {
			x.looks(at, n)
		}
		for _, n := range []int{1, 7, 8, 56, 63, 64, 65, 128, 192} {
			try(func(y pair) api.Errno { return y.unmap(at, n) })
			try(func(y pair) api.Errno { return y.protect(at, n, 1) })
			try(func(y pair) api.Errno { return y.protect(at, n, 0) })
		}
	}
	for at := 4000; at < 4096; at++ {
		for n := 1; n < 100; n++ {
			x.looks(at, n)
		}
		try(func(y pair) api.Errno { return y.unmap(at, 4096-at) })
		try(func(y pair) api.Errno { return y.protect(at, 4096-at, 3) })
	}
	x.unmap(1, 4095)
	if l := x.a.All(); len(l) != 0 {
		t.Errorf("All: %v", l)
	}
}

// P11.2: written rows of Unmap, with errors in their order.
func TestUnmapEdges(t *testing.T) {
	for _, x := range []struct {
		at, n int
		want  api.Errno
	}{
		{8, 8, api.OK},
		{9, 1, api.OK},
		{1, 4095, api.OK},
		{1, 7, api.OK},
		{4095, 1, api.OK},
		{16, 8, api.OK},
		{12, 12, api.OK},
		{24, 104, api.OK},
		{24, 100, api.ErrArg},
		{64, 64, api.OK},
		{8, 0, api.ErrArg},
		{8, -1, api.ErrArg},
		{0, 0, api.ErrArg},
		{4096, 0, api.ErrArg},
		{math.MinInt, math.MinInt, api.ErrArg},
		{0, 1, api.ErrRange},
		{-1, 9, api.ErrRange},
		{4095, 2, api.ErrRange},
		{4096, 1, api.ErrRange},
		{20, 4080, api.ErrRange},
		{1, 4096, api.ErrRange},
		{20, math.MaxInt, api.ErrRange},
		{math.MaxInt, math.MaxInt, api.ErrRange},
		{math.MinInt, 8, api.ErrRange},
		{17, 1, api.ErrArg},
		{16, 7, api.ErrArg},
		{8, 12, api.ErrArg},
		{20, 100, api.ErrArg},
		{24, 41, api.ErrArg},
		{72, 8, api.ErrArg},
		{64, 8, api.ErrArg},
		{120, 200, api.ErrArg},
	} {
		p := newPair(t, made{8, 8, 1, 3, 0}, made{16, 8, 3, 3, 0}, made{64, 64, 4, 3, 0})
		if err := p.unmap(x.at, x.n); err != x.want {
			t.Errorf("Unmap(%d, %d): %d, want %d", x.at, x.n, err, x.want)
		}
		p.same()
	}
}

// P11.2: written rows of Protect, with errors in their order.
func TestProtectEdges(t *testing.T) {
	for _, x := range []struct {
		at, n, prot int
		want        api.Errno
	}{
		{8, 8, 0, api.OK},
		{8, 8, 1, api.OK},
		{8, 8, 3, api.OK},
		{9, 1, 1, api.OK},
		{8, 16, 1, api.OK},
		{9, 15, 3, api.OK},
		{16, 8, 1, api.OK},
		{64, 64, 1, api.OK},
		{24, 4, 0, api.OK},
		{4090, 6, 0, api.OK},
		{8, 0, 1, api.ErrArg},
		{0, 0, 1, api.ErrArg},
		{8, -1, 2, api.ErrArg},
		{0, 1, 1, api.ErrRange},
		{0, 1, 2, api.ErrRange},
		{4096, 1, -1, api.ErrRange},
		{4090, 7, 0, api.ErrRange},
		{16, math.MaxInt, 4, api.ErrRange},
		{math.MaxInt, 1, 4, api.ErrRange},
		{8, 8, 2, api.ErrArg},
		{8, 8, 4, api.ErrArg},
		{8, 8, -1, api.ErrArg},
		{8, 8, math.MinInt, api.ErrArg},
		{8, 8, math.MaxInt, api.ErrArg},
		{8, 8, 1<<32 + 1, api.ErrArg},
		{1, 3, 2, api.ErrArg},
		{20, 30, 2, api.ErrArg},
		{1, 3, 1, api.ErrNone},
		{7, 2, 1, api.ErrNone},
		{28, 1, 1, api.ErrNone},
		{27, 2, 0, api.ErrNone},
		{20, 30, 1, api.ErrNone},
		{20, 30, 0, api.ErrNone},
		{8, 50, 0, api.ErrNone},
		{72, 100, 3, api.ErrNone},
		{17, 1, 1, api.ErrArg},
		{17, 1, 0, api.ErrArg},
		{8, 12, 3, api.ErrArg},
		{20, 6, 1, api.ErrArg},
		{64, 8, 1, api.ErrArg},
		{72, 56, 1, api.ErrArg},
		{16, 8, 0, api.ErrArg},
		{8, 16, 0, api.ErrArg},
		{12, 16, 0, api.ErrArg},
		{64, 64, 0, api.ErrArg},
	} {
		p := newPair(t, made{8, 8, 1, 3, 0}, made{16, 8, 5, 3, 4}, made{24, 4, 2, 1, 4}, made{64, 64, 4, 3, 0}, made{4090, 6, 2, 3, 4})
		if err := p.protect(x.at, x.n, x.prot); err != x.want {
			t.Errorf("Protect(%d, %d, %d): %d, want %d", x.at, x.n, x.prot, err, x.want)
		}
		p.same()
	}
}

// P11.3: written rows, with errors in their order.
func TestMoveEdges(t *testing.T) {
	for _, x := range []struct {
		at, n, to int
		want      api.Errno
	}{
		{8, 8, 1, api.ErrArg},
		{8, 7, 1, api.OK},
		{8, 8, 32, api.OK},
		{9, 1, 7, api.OK},
		{8, 1, 7, api.OK},
		{12, 4, 40, api.OK},
		{8, 2, 128, api.OK},
		{8, 8, 4082, api.OK},
		{4090, 6, 4084, api.OK},
		{4090, 6, 1, api.OK},
		{24, 4, 28, api.OK},
		{24, 4, 36, api.OK},
		{4090, 6, 0, api.ErrRange},
		{8, 8, 0, api.ErrRange},
		{8, 8, -1, api.ErrRange},
		{8, 8, 4089, api.ErrRange},
		{8, 8, 4096, api.ErrRange},
		{8, 8, math.MaxInt, api.ErrRange},
		{8, 8, math.MaxInt - 7, api.ErrRange},
		{8, 8, math.MinInt, api.ErrRange},
		{0, 8, 32, api.ErrRange},
		{0, 8, 0, api.ErrRange},
		{-1, 8, 32, api.ErrRange},
		{4090, 7, 32, api.ErrRange},
		{8, math.MaxInt, 32, api.ErrRange},
		{math.MaxInt, math.MaxInt, math.MaxInt, api.ErrRange},
		{3000, 8, 0, api.ErrRange},
		{8, 0, 32, api.ErrArg},
		{8, 0, 0, api.ErrArg},
		{0, 0, 0, api.ErrArg},
		{8, -8, 32, api.ErrArg},
		{8, math.MinInt, math.MinInt, api.ErrArg},
		{8, 8, 8, api.ErrArg},
		{8, 8, 9, api.ErrArg},
		{8, 8, 15, api.ErrArg},
		{8, 8, 2, api.ErrArg},
		{3000, 8, 3000, api.ErrArg},
		{3000, 8, 3007, api.ErrArg},
		{3000, 8, 2993, api.ErrArg},
		{8, 100, 100, api.ErrArg},
		{1, 2048, 2048, api.ErrArg},
		{3000, 8, 3008, api.ErrNone},
		{3000, 8, 2992, api.ErrNone},
		{7, 2, 40, api.ErrNone},
		{26, 8, 40, api.ErrNone},
		{1, 2047, 2048, api.ErrNone},
		{12, 30, 200, api.ErrNone},
		{7, 3, 16, api.ErrNone},
		{16, 8, 32, api.ErrArg},
		{17, 1, 32, api.ErrArg},
		{8, 16, 32, api.ErrArg},
		{64, 64, 256, api.ErrArg},
		{70, 2, 256, api.ErrArg},
		{8, 16, 24, api.ErrArg},
		{64, 8, 8, api.ErrArg},
		{8, 8, 16, api.ErrExist},
		{8, 8, 23, api.ErrExist},
		{8, 4, 12, api.ErrExist},
		{8, 4, 21, api.ErrExist},
		{8, 8, 60, api.ErrExist},
		{8, 8, 127, api.ErrExist},
		{8, 8, 4085, api.ErrExist},
		{24, 4, 4092, api.ErrExist},
		{8, 1, 4095, api.ErrExist},
	} {
		p := newPair(t, made{8, 8, 1, 3, 0}, made{16, 8, 6, 3, 0}, made{24, 4, 2, 1, 4}, made{64, 64, 4, 3, 0}, made{4090, 6, 2, 3, 4})
		if err := p.move(x.at, x.n, x.to); err != x.want {
			t.Errorf("Move(%d, %d, %d): %d, want %d", x.at, x.n, x.to, err, x.want)
		}
		p.same()
	}
}

// P11.2, P11.3, P11.4 with numbers of all sorts in all places: with an error nothing has changed.
func TestSorts(t *testing.T) {
	x := newPair(t, made{1, 4, 2, 3, 9}, made{7, 1, 1, 3, 0}, made{8, 8, 1, 1, 0}, made{64, 64, 3, 3, 0}, made{128, 2, 1, 3, 0}, made{4032, 64, 2, 1, 4})
	try := x.trial()
	for _, at := range sorts {
		for _, n := range sorts {
			try(func(y pair) api.Errno { return y.unmap(at, n) })
			for _, more := range sorts {
				try(func(y pair) api.Errno { return y.protect(at, n, more) })
				try(func(y pair) api.Errno { return y.move(at, n, more) })
			}
		}
	}
	x.same()
}

// P11.3, P11.6: what an object's areas were cut from they become again, if each page comes to where it was; else not.
func TestMoveObject(t *testing.T) {
	whole := []api.Area{{From: 8, To: 16, How: 2, Prot: 3, Object: 4}}
	for n := 1; n < 8; n++ {
		for at := 8; at+n <= 16; at++ {
			x := newPair(t, made{8, 8, 2, 3, 4})
			x.move(at, n, 100)
			if b, ok := x.a.Find(100); !ok || b.Off != at-8 || b.To != 100+n {
				t.Errorf("Move(%d, %d, 100), and then Find(100): %v, %v", at, n, b, ok)
			}
			x.same()
			x.move(100, n, at)
			if l := x.a.All(); !slices.Equal(l, whole) {
				t.Errorf("Move(%d, %d, 100) and back: %v", at, n, l)
			}
		}
	}
	x := newPair(t, made{8, 8, 2, 3, 4})
	x.move(8, 2, 20)
	x.move(10, 2, 8)
	x.move(20, 2, 10)
	if l := x.a.All(); len(l) != 3 {
		t.Errorf("in another order: %v", l)
	}
	x.same()
}

// P11.2, P11.6: what was protected otherwise is joined when it is protected alike again.
func TestProtectJoins(t *testing.T) {
	for _, w := range ways() {
		for _, prot := range []int{0, 1, 3} {
			w.n = 64 * 4
			x := newPair(t, w)
			err := x.protect(128, 64, prot)
			want := 3
			if prot == w.prot || err != api.OK {
				want = 1
			}
			if l := x.a.All(); len(l) != want {
				t.Errorf("%v, Protect to %d: %v", w, prot, l)
			}
			x.same()
			x.protect(64, 64*4, prot)
			if l := x.a.All(); len(l) != 1 {
				t.Errorf("%v, Protect of all to %d: %v", w, prot, l)
			}
			x.protect(192, 64, 3)
			x.protect(128, 64, w.prot)
			x.protect(64, 64*4, w.prot)
			if l := x.a.All(); len(l) != 1 {
				t.Errorf("%v, Protect there and back: %v", w, l)
			}
		}
	}
}

// full has areas of two pages each, with two pages between them, and one of eight pages as the last.
func full(t *testing.T, areas int) pair {
	t.Helper()
	x := newPair(t)
	for i := range areas - 1 {
		x.mapped(8+4*i, 2, 1, 3, 0)
	}
	x.mapped(1000, 8, 1, 3, 0)
	return x
}

// P11.1 to P11.3: no more than 64 areas, counted when all is joined; the errors that come ahead of it do.
func TestFull(t *testing.T) {
	for areas := 60; areas <= 64; areas++ {
		x := full(t, areas)
		x.same()
		if l := x.a.All(); len(l) != areas {
			t.Fatalf("%d areas", len(l))
		}
		// How many areas more there would be, of a call that is right.
		for _, c := range []struct {
			more int
			call func(pair) api.Errno
		}{
			{1, func(x pair) api.Errno { return x.mapped(2000, 8, 1, 3, 0) }},
			{1, func(x pair) api.Errno { return x.mapped(1, 1, 2, 3, 0) }},
			{1, func(x pair) api.Errno { return x.mapped(4088, 8, 3, 3, 0) }},
			{1, func(x pair) api.Errno { return x.mapped(10, 1, 1, 1, 0) }},
			{1, func(x pair) api.Errno { return x.mapped(10, 2, 2, 3, 0) }},
			{0, func(x pair) api.Errno { return x.mapped(10, 1, 1, 3, 0) }},
			{0, func(x pair) api.Errno { return x.mapped(11, 1, 1, 3, 0) }},
			{-1, func(x pair) api.Errno { return x.mapped(10, 2, 1, 3, 0) }},
			{1, func(x pair) api.Errno { return x.unmap(1001, 6) }},
			{0, func(x pair) api.Errno { return x.unmap(1001, 7) }},
			{0, func(x pair) api.Errno { return x.unmap(1000, 7) }},
			{0, func(x pair) api.Errno { return x.unmap(3000, 7) }},
			{-1, func(x pair) api.Errno { return x.unmap(1000, 8) }},
			{-3, func(x pair) api.Errno { return x.unmap(8, 12) }},
			{2, func(x pair) api.Errno { return x.protect(1001, 6, 1) }},
			{2, func(x pair) api.Errno { return x.protect(1003, 1, 0) }},
			{1, func(x pair) api.Errno { return x.protect(1001, 7, 1) }},
			{1, func(x pair) api.Errno { return x.protect(1000, 1, 1) }},
			{0, func(x pair) api.Errno { return x.protect(1000, 8, 1) }},
			{0, func(x pair) api.Errno { return x.protect(1001, 6, 3) }},
			{2, func(x pair) api.Errno { return x.move(1001, 6, 2000) }},
			{1, func(x pair) api.Errno { return x.move(1001, 7, 2000) }},
			{1, func(x pair) api.Errno { return x.move(1002, 1, 10) }},
			{0, func(x pair) api.Errno { return x.move(1002, 2, 10) }},
			{1, func(x pair) api.Errno { return x.move(1000, 2, 998) }},
			{0, func(x pair) api.Errno { return x.move(1000, 2, 1008) }},
			{0, func(x pair) api.Errno { return x.move(1000, 8, 2000) }},
			{1, func(x pair) api.Errno { return x.move(8, 1, 7) }},
			{0, func(x pair) api.Errno { return x.move(8, 2, 6) }},
			{-1, func(x pair) api.Errno { return x.move(8, 2, 14) }},
		} {
			y, want := x.twin(), api.OK
			if areas+c.more > 64 {
				want = api.ErrFull
			}
			if err := c.call(y); err != want {
				t.Errorf("%d areas, %d more: %d, want %d", areas, c.more, err, want)
			}
		}
	}
}

// P11.1 to P11.3: of a space that is full, other errors come ahead of ErrFull.
func TestFullErrors(t *testing.T) {
	x := full(t, 63)
	x.mapped(2048, 64, 3, 3, 0)
	for _, c := range []struct {
		got, want api.Errno
	}{
		{x.mapped(3000, 8, 7, 3, 0), api.ErrArg},
		{x.mapped(3001, 8, 3, 3, 0), api.ErrArg},
		{x.mapped(3000, 4000, 1, 3, 0), api.ErrRange},
		{x.mapped(1007, 2, 1, 1, 0), api.ErrExist},
		{x.unmap(2049, 1), api.ErrArg},
		{x.unmap(2056, 8), api.ErrFull},
		{x.protect(2056, 8, 2), api.ErrArg},
		{x.protect(2056, 100, 1), api.ErrNone},
		{x.protect(2056, 1, 1), api.ErrArg},
		{x.protect(2056, 8, 0), api.ErrArg},
		{x.protect(2056, 8, 1), api.ErrFull},
		{x.move(1001, 4, 1003), api.ErrArg},
		{x.move(1001, 40, 3000), api.ErrNone},
		{x.move(2056, 8, 3000), api.ErrArg},
		{x.move(1001, 4, 2040+8), api.ErrExist},
		{x.move(1001, 4, 3000), api.ErrFull},
	} {
		if c.got != c.want {
			t.Errorf("%d, want %d", c.got, c.want)
		}
	}
	x.same()
}

// kept tells those of some areas that Copy keeps.
func kept(m *model) *model {
	c := *m
	for page := range c {
		switch c[page].how {
		case api.OfHuge, api.OfGiant, api.LazyHuge:
			c[page] = cell{}
		}
	}
	return &c
}

// P11.4: a copy lacks a space's own huge pages, a clone nothing; and what is done with one is not done with another.
func TestCopies(t *testing.T) {
	spaces := append(grounds(), ways(), nil)
	for i := range spaces[4] {
		spaces[4][i].at = 64 * (i + 1)
	}
	for _, l := range spaces {
		x := newPair(t, l...)
		before := x.twin()
		c := pair{t, x.a.Copy(), kept(x.m)}
		d := x.twin()
		if c.a == x.a || d.a == x.a {
			t.Fatal("they are the same ones")
		}
		c.same()
		d.same()
		n := chance(3)
		for range 60 {
			c.step(&n, 60)
			x.all()
			d.all()
		}
		for range 60 {
			d.step(&n, 60)
			x.all()
			c.all()
		}
		x.same()
		for range 60 {
			x.step(&n, 60)
			c.all()
			d.all()
			before.all()
		}
	}
}

// P11.4: a copy of 64 areas is full, too, but where it lacks some.
func TestCopyFull(t *testing.T) {
	x := full(t, 64)
	c := pair{t, x.a.Copy(), kept(x.m)}
	if err := c.mapped(3000, 1, 1, 3, 0); err != api.ErrFull {
		t.Errorf("Map: %d, want ErrFull", err)
	}
	x.unmap(1000, 8)
	x.mapped(2048, 8, 6, 3, 0)
	c = pair{t, x.a.Copy(), kept(x.m)}
	if err := c.mapped(2048, 8, 1, 3, 0); err != api.OK {
		t.Errorf("Map: %d", err)
	}
	if err := x.mapped(3000, 1, 1, 3, 0); err != api.ErrFull {
		t.Errorf("Map: %d, want ErrFull", err)
	}
	x.same()
	c.same()
}

// spoil changes a list that was told, and what room it has to spare.
func spoil(l []api.Area) {
	l = l[:cap(l)]
	for i := range l {
		l[i] = api.Area{From: -9, To: 9999, How: 9, Prot: 9, Object: -9, Off: -9}
	}
}

// R3: what is told is new memory, and stays as it was told.
func TestToldNew(t *testing.T) {
	for _, l := range grounds() {
		x := newPair(t, l...)
		want := x.a.All()
		all, others := x.a.All(), x.a.All()
		told, _ := x.a.Pieces(1, 4095)
		spoil(all)
		spoil(told)
		x.same()
		if !slices.Equal(others, want) {
			t.Errorf("two answers share their memory: %v", others)
		}
		for _, call := range []func() ([]api.Area, api.Errno){
			func() ([]api.Area, api.Errno) { return x.a.Unmap(1, 4095) },
			func() ([]api.Area, api.Errno) { return x.a.Protect(40, 1, 1) },
			func() ([]api.Area, api.Errno) { return x.a.Move(40, 1, 3000) },
		} {
			now, err := call()
			before := x.a.All()
			spoil(now)
			if got := x.a.All(); !slices.Equal(got, before) {
				t.Errorf("the areas became %v, were %v (%d)", got, before, err)
			}
			x.a.Map(40, 1, 1, 3, 0)
		}
		if !slices.Equal(others, want) {
			t.Errorf("what was told became %v; was %v", others, want)
		}
		kept, _ := x.a.Pieces(1, 4095)
		was := slices.Clone(kept)
		x.a.Protect(40, 1, 0)
		x.a.Map(41, 1, 1, 0, 0)
		x.a.Unmap(1, 4095)
		if !slices.Equal(kept, was) {
			t.Errorf("what was told became %v; was %v", kept, was)
		}
	}
}

// step does one of all calls, mostly ones that may be, in the first pages.
func (x pair) step(c *chance, pages int) {
	x.t.Helper()
	at, n := 1+c.below(pages), 1+c.below(12)
	if l := x.m.runs(0, 4096); len(l) > 0 && c.below(2) == 0 {
		b := l[c.below(len(l))]
		at = b.From + c.below(b.To-b.From)
		n = 1 + c.below(b.To-at+1)
	}
	if c.below(4) == 0 {
		at, n = at&^7, (n+7)&^7
	}
	switch c.below(10) {
	case 0, 1, 2, 3:
		w := []made{{0, 0, 1, 3, 0}, {0, 0, 1, 1, 0}, {0, 0, 2, 3, 1}, {0, 0, 2, 3, 0}, {0, 0, 3, 3, 0}, {0, 0, 4, 1, 0}, {0, 0, 5, 3, 1}, {0, 0, 6, 3, 0}}[c.below(8)]
		if s := sizes[w.how]; s > 1 {
			at, n = at&^(s-1), (n+s-1)&^(s-1)
		}
		x.mapped(at, n, w.how, w.prot, w.object)
	case 4, 5:
		x.unmap(at, n)
	case 6, 7:
		x.protect(at, n, c.below(4))
	case 8:
		x.move(at, n, 1+c.below(pages))
	default:
		x.mapped(c.below(4200)-50, c.below(300)-3, c.below(8), c.below(4), c.below(3)-1)
	}
}

// P11.1 to P11.6: long rows of calls, in few pages and in many.
func TestRows(t *testing.T) {
	c := chance(1)
	for _, pages := range []int{10, 30, 100, 400, 1500, 4095} {
		for range 6 {
			x := newPair(t)
			for i := range 300 {
				x.step(&c, pages)
				if i%100 == 99 {
					x.same()
				}
			}
			x.unmap(1, 4095)
			x.same()
		}
	}
}

// P11.5: with calls on both halves in turn, each half is as if nothing was done with the other.
func TestApart(t *testing.T) {
	x, low, high := newPair(t), newPair(t), newPair(t)
	c := chance(7)
	for range 400 {
		at, n, how := 1+c.below(60), 1+c.below(9), 1+c.below(2)
		far := at + 2048
		other := high
		if c.below(2) == 0 {
			far, other = at, low
		}
		for _, y := range []pair{x, other} {
			switch n % 3 {
			case 0:
				y.unmap(far, n)
			case 1:
				y.mapped(far, n, how, 3, 0)
			default:
				y.protect(far, n, 1)
			}
		}
		if l := x.a.All(); !slices.Equal(l, append(low.a.All(), high.a.All()...)) {
			t.Fatalf("%v; alone they are %v and %v", l, low.a.All(), high.a.All())
		}
	}
}

// R4: two know nothing of each other, and answer alike what was done alike.
func TestTwo(t *testing.T) {
	x, y := newPair(t), newPair(t)
	c, d := chance(3), chance(3)
	for range 200 {
		x.step(&c, 100)
	}
	y.same()
	if len(x.a.All()) == 0 || len(y.a.All()) != 0 {
		t.Errorf("%v and %v", x.a.All(), y.a.All())
	}
	for range 200 {
		y.step(&d, 100)
	}
	if !slices.Equal(x.a.All(), y.a.All()) {
		t.Errorf("%v and %v", x.a.All(), y.a.All())
	}
	x.same()
	y.same()
}
