package walk_test

import (
	"math"
	"slices"
	"testing"

	"pantile/api"
	"pantile/entry"
	"pantile/ram"
	"pantile/walk"
)

// Numbers of all sorts: around 0, the ends of what there is, and of what a number can be.
var sorts = []int{
	math.MinInt, math.MinInt + 1, math.MinInt / 2, math.MinInt / 8, math.MinInt / 64, -1 << 32, -4096, -1024, -64, -8, -2, -1,
	0, 1, 2, 3, 7, 8, 9, 23, 24, 25, 63, 64, 100, 511, 512, 1000, 1023, 1024, 1025, 4094, 4095, 4096, 4097, 1 << 20, 1 << 32, 1 << 55, 1 << 58,
	math.MaxInt / 64, math.MaxInt/64 + 1, math.MaxInt / 8, math.MaxInt / 2, math.MaxInt - 7, math.MaxInt - 1, math.MaxInt,
}

// The bits of an entry's word, by chapter 1.
const (
	present = 1 << 0
	write   = 1 << 1
	used    = 1 << 5
	dirty   = 1 << 6
	huge    = 1 << 7
	held    = 1 << 9
)

var allBits = []uint64{present, write, used, dirty, huge, held}

// noEntry are words that no entry has.
var noEntry = []uint64{
	write, used, dirty, huge, 1 << 2, present | 1<<3, present | 1<<4, present | 1<<8, present | 1<<10, present | 1<<11,
	present | held, held | write, held | huge, 5 << 12, 5<<12 | write, present | 1<<32, present | 1<<63, held | 1<<40, math.MaxUint64,
}

func newRam(t *testing.T, frames int) *ram.Ram {
	t.Helper()
	r, err := ram.New(frames)
	if r == nil || err != api.OK {
		t.Fatalf("ram.New(%d): %v, %d", frames, r, err)
	}
	return r
}

// lay lays a table's word as it is, whatever it says.
func lay(t *testing.T, r *ram.Ram, table, i int, w uint64) {
	t.Helper()
	if err := r.Store(table*64+i*8, w); err != api.OK {
		t.Fatalf("Store of the word %d of the table %d: %d", i, table, err)
	}
}

// word makes an entry's word of its frame and its bits.
func word(frame int, bits uint64) uint64 { return uint64(frame)<<12 | bits }

// words tells all of a memory.
func words(r *ram.Ram) []uint64 {
	var l []uint64
	for at := 0; at < r.Frames()*64; at += 8 {
		w, _ := r.Load(at)
		l = append(l, w)
	}
	return l
}

// unchanged: the memory is as it was.
func unchanged(t *testing.T, what string, r *ram.Ram, was []uint64) {
	t.Helper()
	if !slices.Equal(words(r), was) {
		t.Fatalf("%s: the memory has changed", what)
	}
}

// has tells whether a word has all of some bits.
func has(w, bits uint64) bool { return w&bits == bits }

// entryOf tells the entry that a word is, by the bits of chapter 1, and whether there is one.
func entryOf(w uint64) (api.Entry, bool) {
	e := api.Entry{
		Frame: int(w >> 12), Present: has(w, present), Write: has(w, write), Huge: has(w, huge),
		Held: has(w, held), Used: has(w, used), Dirty: has(w, dirty),
	}
	is := w == 0
	switch {
	case e.Present:
		is = !e.Held
	case e.Held:
		is = !e.Huge && !e.Write
	}
	if !is || w&0xFFF&^(present|write|used|dirty|huge|held) != 0 || w>>32 != 0 {
		return api.Entry{}, false
	}
	return e, true
}

// walked is what a walk should come to, and which word it read last.
type walked struct {
	leaf   api.Leaf
	tables []int
	err    api.Errno
	at     int
}

// model says the chapter's words of a walk, by the stretches of pages that entries stand for; root and page are right.
func model(r *ram.Ram, root, page int) walked {
	table, tables, size := root, []int(nil), 4096
	for level := 3; ; level-- {
		size /= 8
		tables = append(tables, table)
		at := table*64 + page/size%8*8
		w, _ := r.Load(at)
		e, is := entryOf(w)
		frames := 1
		if e.Huge {
			frames = size
		}
		switch {
		case !is || e.Held && level != 0:
			return walked{err: api.ErrForm}
		case w == 0:
			return walked{tables: tables, err: api.ErrNone}
		case e.Huge && level != 1 && level != 2 || e.Frame%frames != 0 || e.Frame+frames > r.Frames():
			return walked{err: api.ErrForm}
		case e.Huge || level == 0:
			return walked{leaf: api.Leaf{Entry: e, Level: level, Frame: e.Frame + page%size}, tables: tables, at: at}
		}
		table = e.Frame
	}
}

// checkWalk: Walk and Path come to what they should.
func checkWalk(t *testing.T, what string, r *ram.Ram, root, page int, want walked) {
	t.Helper()
	if l, err := walk.Walk(r, root, page); l != want.leaf || err != want.err {
		t.Fatalf("%s: Walk(%d, %d): %+v, %d; want %+v, %d", what, root, page, l, err, want.leaf, want.err)
	}
	if l, err := walk.Path(r, root, page); !slices.Equal(l, want.tables) || err != want.err {
		t.Fatalf("%s: Path(%d, %d): %v, %d; want %v, %d", what, root, page, l, err, want.tables, want.err)
	}
}

// checkMark: Mark answers what it should, lays at most the leaf's word, and nothing else.
func checkMark(t *testing.T, what string, r *ram.Ram, root, page int, writes bool, want walked) {
	t.Helper()
	was := words(r)
	wantErr := want.err
	if e := want.leaf.Entry; wantErr == api.OK {
		bits := uint64(used)
		if writes {
			bits |= dirty
		}
		if e.Held || writes && !e.Write {
			wantErr = api.ErrFault
		} else {
			was[want.at/8] |= bits
		}
	}
	if err := walk.Mark(r, root, page, writes); err != wantErr {
		t.Fatalf("%s: Mark(%d, %d, %v): %d, want %d", what, root, page, writes, err, wantErr)
	}
	unchanged(t, what, r, was)
}

// chance makes numbers in a row that always is the same.
type chance uint64

func (c *chance) below(n int) int {
	*c = *c*6364136223846793005 + 1442695040888963407
	return int(uint64(*c) >> 33 % uint64(n))
}

// The chapter's example.
func TestExample(t *testing.T) {
	r := newRam(t, 24)
	for table, e := range []api.Entry{{Frame: 1, Present: true}, {Frame: 2, Present: true}, {Frame: 8, Present: true, Huge: true}} {
		if err := walk.Put(r, table, table/2, e); err != api.OK {
			t.Errorf("Put(%d, %d): %d", table, table/2, err)
		}
	}
	for page := range 25 {
		l, err := walk.Walk(r, 0, page)
		switch {
		case page/8 != 1:
			if l != (api.Leaf{}) || err != api.ErrNone {
				t.Errorf("Walk(0, %d): %+v, %d; want ErrNone", page, l, err)
			}
		case l != api.Leaf{Entry: api.Entry{Frame: 8, Present: true, Huge: true}, Level: 1, Frame: page} || err != api.OK:
			t.Errorf("Walk(0, %d): %+v, %d", page, l, err)
		}
		if l, err := walk.Path(r, 0, page); !slices.Equal(l, []int{0, 1, 2}) || (err == api.OK) != (page/8 == 1) {
			t.Errorf("Path(0, %d): %v, %d", page, l, err)
		}
	}
}

// P7.1: what Put lays is there, in one word, at every place; Word reads each.
func TestWordPut(t *testing.T) {
	for _, frames := range []int{8, 9, 24, 1024} {
		r := newRam(t, frames)
		want := words(r)
		for n := 0; n < frames*8; n++ {
			table, i := n/8, n%8
			e := api.Entry{Frame: n + 3, Present: true, Write: n%2 == 0, Huge: n%3 == 0, Used: n%5 == 0, Dirty: n%7 == 0}
			if n%11 == 0 {
				e = api.Entry{Frame: api.MaxEntry - 1 - n, Held: true, Used: n%2 == 0}
			}
			if err := walk.Put(r, table, i, e); err != api.OK {
				t.Fatalf("Put(%d, %d, %+v): %d", table, i, e, err)
			}
			want[n], _ = entry.Pack(e)
			if got, err := walk.Word(r, table, i); got != e || err != api.OK {
				t.Fatalf("Word(%d, %d): %+v, %d; want %+v", table, i, got, err, e)
			}
			if frames < 1024 || n%97 == 0 {
				unchanged(t, "laid elsewhere", r, want)
			}
		}
		unchanged(t, "all laid", r, want)
		if err := walk.Put(r, frames-1, 7, api.Entry{}); err != api.OK {
			t.Errorf("Put of nothing: %d", err)
		}
		want[len(want)-1] = 0
		unchanged(t, "nothing laid", r, want)
	}
}

// P7.1: Word of every word's low bits, and of each high one: the entry, or ErrForm.
func TestWordForm(t *testing.T) {
	r := newRam(t, 8)
	check := func(w uint64) {
		t.Helper()
		lay(t, r, 5, 6, w)
		want, is := entryOf(w)
		wantErr := api.OK
		if !is {
			wantErr = api.ErrForm
		}
		if e, err := walk.Word(r, 5, 6); e != want || err != wantErr {
			t.Fatalf("Word of %#x: %+v, %d; want %+v, %d", w, e, err, want, wantErr)
		}
	}
	for low := range uint64(1 << 12) {
		for _, frame := range []int{0, 1, 7, 8, api.MaxEntry - 1} {
			check(word(frame, low))
		}
	}
	for bit := 12; bit < 64; bit++ {
		check(1<<bit | present)
		check(1<<bit | held)
		check(1 << bit)
	}
	for _, w := range noEntry {
		lay(t, r, 5, 6, w)
		if e, err := walk.Word(r, 5, 6); e != (api.Entry{}) || err != api.ErrForm {
			t.Errorf("Word of %#x: %+v, %d; want ErrForm", w, e, err)
		}
	}
}

// P7.1: entry.Pack's errors of Put, behind those of the place; they change nothing.
func TestPutErrors(t *testing.T) {
	r := newRam(t, 8)
	for i := range 8 {
		lay(t, r, 3, i, word(i, present))
	}
	was := words(r)
	for _, x := range []struct {
		e    api.Entry
		want api.Errno
	}{
		{api.Entry{Frame: -1, Present: true}, api.ErrRange},
		{api.Entry{Frame: -1}, api.ErrRange},
		{api.Entry{Frame: api.MaxEntry, Present: true}, api.ErrRange},
		{api.Entry{Frame: math.MaxInt, Held: true}, api.ErrRange},
		{api.Entry{Frame: math.MinInt, Held: true, Present: true}, api.ErrRange},
		{api.Entry{Frame: 1}, api.ErrArg},
		{api.Entry{Write: true}, api.ErrArg},
		{api.Entry{Used: true}, api.ErrArg},
		{api.Entry{Frame: 1, Present: true, Held: true}, api.ErrArg},
		{api.Entry{Frame: 1, Held: true, Write: true}, api.ErrArg},
		{api.Entry{Frame: 8, Held: true, Huge: true}, api.ErrArg},
	} {
		if _, err := entry.Pack(x.e); err != x.want {
			t.Errorf("Pack(%+v): %d, want %d", x.e, err, x.want)
		}
		if err := walk.Put(r, 3, 4, x.e); err != x.want {
			t.Errorf("Put(3, 4, %+v): %d, want %d", x.e, err, x.want)
		}
		for _, place := range [][2]int{{-1, 0}, {8, 0}, {3, -1}, {3, 8}, {math.MaxInt, math.MinInt}} {
			if err := walk.Put(r, place[0], place[1], x.e); err != api.ErrRange {
				t.Errorf("Put(%d, %d, %+v): %d, want ErrRange", place[0], place[1], x.e, err)
			}
		}
	}
	unchanged(t, "wrong entries", r, was)
}

// P7.1: an entry may name what is no frame of the memory: only a walk asks for that.
func TestPutFarFrames(t *testing.T) {
	r := newRam(t, 8)
	for _, frame := range []int{7, 8, 9, 1023, 1024, api.MaxEntry - 1} {
		e := api.Entry{Frame: frame, Present: true, Huge: true}
		if err := walk.Put(r, 7, 7, e); err != api.OK {
			t.Errorf("Put of the frame %d: %d", frame, err)
		}
		if got, err := walk.Word(r, 7, 7); got != e || err != api.OK {
			t.Errorf("Word of the frame %d: %+v, %d", frame, got, err)
		}
	}
}

// P7.1: places that are none, of all sorts; nothing changes.
func TestPlaces(t *testing.T) {
	for _, frames := range []int{8, 24, 1024} {
		r := newRam(t, frames)
		for i := range 8 {
			lay(t, r, frames-1, i, word(i, present))
		}
		was := words(r)
		for _, table := range append([]int{frames - 1, frames}, sorts...) {
			for _, i := range sorts {
				e, err := walk.Word(r, table, i)
				if table >= 0 && table < frames && i >= 0 && i < 8 {
					if want, _ := entryOf(was[table*8+i]); e != want || err != api.OK {
						t.Errorf("%d: Word(%d, %d): %+v, %d", frames, table, i, e, err)
					}
					continue
				}
				if e != (api.Entry{}) || err != api.ErrRange {
					t.Errorf("%d: Word(%d, %d): %+v, %d; want ErrRange", frames, table, i, e, err)
				}
				if err := walk.Put(r, table, i, api.Entry{Frame: 5, Present: true}); err != api.ErrRange {
					t.Errorf("%d: Put(%d, %d): %d; want ErrRange", frames, table, i, err)
				}
			}
		}
		unchanged(t, "wrong places", r, was)
	}
}

// A nil memory: ErrNil ahead of all else.
func TestNil(t *testing.T) {
	for _, table := range sorts {
		for _, i := range sorts {
			if e, err := walk.Word(nil, table, i); e != (api.Entry{}) || err != api.ErrNil {
				t.Errorf("Word(%d, %d): %+v, %d", table, i, e, err)
			}
			for _, e := range []api.Entry{{}, {Frame: 1, Present: true}, {Frame: -1}, {Frame: 1}} {
				if err := walk.Put(nil, table, i, e); err != api.ErrNil {
					t.Errorf("Put(%d, %d, %+v): %d", table, i, e, err)
				}
			}
			if l, err := walk.Walk(nil, table, i); l != (api.Leaf{}) || err != api.ErrNil {
				t.Errorf("Walk(%d, %d): %+v, %d", table, i, l, err)
			}
			if l, err := walk.Path(nil, table, i); len(l) != 0 || err != api.ErrNil {
				t.Errorf("Path(%d, %d): %v, %d", table, i, l, err)
			}
			for _, writes := range []bool{false, true} {
				if err := walk.Mark(nil, table, i, writes); err != api.ErrNil {
					t.Errorf("Mark(%d, %d, %v): %d", table, i, writes, err)
				}
			}
		}
	}
}

// P7.2 and P7.3: roots and pages that are none, ahead of what is wrong on the way, and of want of a leaf.
func TestRange(t *testing.T) {
	for _, frames := range []int{8, 24, 1024} {
		for _, w := range []uint64{0, math.MaxUint64} {
			r := newRam(t, frames)
			for n := range frames * 8 {
				lay(t, r, n/8, n%8, w)
			}
			was := words(r)
			for _, root := range append([]int{frames - 1, frames}, sorts...) {
				for _, page := range sorts {
					want := walked{err: api.ErrRange}
					if root >= 0 && root < frames && page >= 0 && page < 4096 {
						want = model(r, root, page)
					}
					checkWalk(t, "range", r, root, page, want)
					checkMark(t, "range", r, root, page, true, want)
				}
			}
			unchanged(t, "wrong roots and pages", r, was)
		}
	}
}

// The memory of these tests: tables 0, 1, 2, 3 of the levels 3, 2, 1, 0, each at the entry of the page that is asked; then one of them gets another word.
func line(t *testing.T, frames, page int) *ram.Ram {
	t.Helper()
	r := newRam(t, frames)
	for depth, size := range []int{512, 64, 8, 1} {
		w := word(depth+1, present)
		if depth == 3 {
			w = word(5, present|write)
		}
		lay(t, r, depth, page/size%8, w)
	}
	return r
}

// slot tells which entry a walk of a page reads at a level.
func slot(page, level int) int { return page >> (3 * level) % 8 }

// P7.2: every set of bits at every level, with frames at all edges of small, middling and great memories.
func TestEveryEntry(t *testing.T) {
	const page = 3*512 + 6*64 + 5*8 + 7
	for _, frames := range []int{8, 9, 15, 16, 17, 63, 64, 65, 127, 128, 129, 1000, 1023, 1024} {
		at := []int{
			0, 1, 4, 7, 8, 9, 16, 56, 60, 63, 64, 65, 72, 120, 128, 512, 960, 1016, 1024, 4096, api.MaxEntry - 64, api.MaxEntry - 8, api.MaxEntry - 1,
			frames - 65, frames - 64, frames - 63, frames - 9, frames - 8, frames - 7, frames - 1, frames, frames + 1, frames / 8 * 8, frames / 64 * 64,
		}
		for level := range 4 {
			r := line(t, frames, page)
			for bits := range 64 {
				var low uint64
				for i, bit := range allBits {
					if bits>>i&1 == 1 {
						low |= bit
					}
				}
				for _, frame := range at {
					if frame < 0 {
						continue
					}
					lay(t, r, 3-level, slot(page, level), word(frame, low))
					checkWalk(t, "every entry", r, 0, page, model(r, 0, page))
				}
			}
		}
	}
}

// P7.2 and P7.3, written out: what an entry at a level says.
func TestEntrySays(t *testing.T) {
	const page = 5*512 + 2*64 + 1*8 + 6
	rows := []struct {
		level, frames int
		w             uint64
		err           api.Errno
		frame         int
		path          []int
	}{
		{0, 24, word(23, present), api.OK, 23, []int{0, 1, 2, 3}},
		{0, 24, word(0, present|write|used|dirty), api.OK, 0, []int{0, 1, 2, 3}},
		{0, 24, word(24, present), api.ErrForm, 0, nil},
		{0, 24, word(api.MaxEntry-1, present), api.ErrForm, 0, nil},
		{0, 24, word(23, held), api.OK, 23, []int{0, 1, 2, 3}},
		{0, 24, word(9, held|used|dirty), api.OK, 9, []int{0, 1, 2, 3}},
		{0, 24, word(24, held), api.ErrForm, 0, nil},
		{0, 24, word(8, present|huge), api.ErrForm, 0, nil},
		{0, 24, word(0, present|huge), api.ErrForm, 0, nil},
		{0, 24, 0, api.ErrNone, 0, []int{0, 1, 2, 3}},
		{1, 24, 0, api.ErrNone, 0, []int{0, 1, 2}},
		{1, 24, word(8, present|huge), api.OK, 14, []int{0, 1, 2}},
		{1, 24, word(16, present|huge|write), api.OK, 22, []int{0, 1, 2}},
		{1, 24, word(24, present|huge), api.ErrForm, 0, nil},
		{1, 23, word(16, present|huge), api.ErrForm, 0, nil},
		{1, 24, word(12, present|huge), api.ErrForm, 0, nil},
		{1, 24, word(9, present|huge), api.ErrForm, 0, nil},
		{1, 24, word(3, held), api.ErrForm, 0, nil},
		{1, 24, word(24, present), api.ErrForm, 0, nil},
		{1, 24, word(23, present), api.ErrNone, 0, []int{0, 1, 2, 23}},
		{2, 24, 0, api.ErrNone, 0, []int{0, 1}},
		{2, 128, word(64, present|huge), api.OK, 64 + 14, []int{0, 1}},
		{2, 128, word(0, present|huge), api.OK, 14, []int{0, 1}},
		{2, 128, word(128, present|huge), api.ErrForm, 0, nil},
		{2, 127, word(64, present|huge), api.ErrForm, 0, nil},
		{2, 24, word(0, present|huge), api.ErrForm, 0, nil},
		{2, 1024, word(8, present|huge), api.ErrForm, 0, nil},
		{2, 1024, word(96, present|huge), api.ErrForm, 0, nil},
		{2, 1024, word(960, present|huge), api.OK, 974, []int{0, 1}},
		{2, 24, word(3, held), api.ErrForm, 0, nil},
		{2, 24, word(24, present), api.ErrForm, 0, nil},
		{3, 24, 0, api.ErrNone, 0, []int{0}},
		{3, 1024, word(0, present|huge), api.ErrForm, 0, nil},
		{3, 1024, word(512, present|huge), api.ErrForm, 0, nil},
		{3, 24, word(3, held), api.ErrForm, 0, nil},
		{3, 24, word(24, present), api.ErrForm, 0, nil},
		{3, 24, word(1000, present|write), api.ErrForm, 0, nil},
	}
	for level := range 4 {
		for _, w := range noEntry {
			r := line(t, 24, page)
			lay(t, r, 3-level, slot(page, level), w)
			checkWalk(t, "no entry", r, 0, page, walked{err: api.ErrForm})
			checkMark(t, "no entry", r, 0, page, true, walked{err: api.ErrForm})
		}
	}
	for _, x := range rows {
		r := line(t, x.frames, page)
		lay(t, r, 3-x.level, slot(page, x.level), x.w)
		want := walked{tables: x.path, err: x.err}
		if x.err == api.OK {
			e, _ := entryOf(x.w)
			want.leaf = api.Leaf{Entry: e, Level: x.level, Frame: x.frame}
			want.at = (3-x.level)*64 + slot(page, x.level)*8
		}
		checkWalk(t, "written", r, 0, page, want)
		checkMark(t, "written", r, 0, page, false, want)
	}
}

// P7.2: each page goes its own way: of every page alone there is a leaf, of its neighbours none.
func TestDigits(t *testing.T) {
	for page := range 4096 {
		r := line(t, 8, page)
		want := walked{leaf: api.Leaf{Entry: api.Entry{Frame: 5, Present: true, Write: true}, Frame: 5}, tables: []int{0, 1, 2, 3}}
		checkWalk(t, "one page", r, 0, page, want)
		for _, step := range []int{1, 8, 64, 512} {
			for _, other := range []int{page - step, page + step, page ^ step} {
				if other >= 0 && other < 4096 {
					checkWalk(t, "another page", r, 0, other, model(r, 0, other))
					if _, err := walk.Walk(r, 0, other); err != api.ErrNone {
						t.Fatalf("Walk(0, %d) where only %d is: %d", other, page, err)
					}
				}
			}
		}
	}
}

// P7.2: nothing hangs on where tables stand, and what stands in others: the root may be any frame.
func TestRoots(t *testing.T) {
	r := newRam(t, 1024)
	const page = 4095
	for _, x := range [][4]int{{1023, 1022, 500, 7}, {7, 500, 1022, 1023}, {512, 0, 1, 2}} {
		for i, table := range x {
			frame := 777
			if i < 3 {
				frame = x[i+1]
			}
			lay(t, r, table, 7, word(frame, present))
		}
		want := walked{leaf: api.Leaf{Entry: api.Entry{Frame: 777, Present: true}, Frame: 777}, tables: x[:]}
		checkWalk(t, "roots", r, x[0], page, want)
	}
}

// space lays tables of all sorts: giant, huge and small leaves, held ones, gaps, and what is wrong. It tells where each page should stand (-1: nowhere, -2: wrong).
func space(t *testing.T) (*ram.Ram, [4096]int) {
	t.Helper()
	r := newRam(t, 1024)
	var frames [4096]int
	fill := func(at, n, frame int) {
		for i := range n {
			frames[at+i] = frame
			if frame >= 0 {
				frames[at+i] += i
			}
		}
	}
	fill(0, 4096, -1)
	lay(t, r, 0, 0, word(1, present))
	lay(t, r, 1, 0, word(2, present|write))
	lay(t, r, 2, 0, word(3, present))
	for i := range 8 {
		lay(t, r, 3, i, word(20+7*i, present|uint64(i%2)*write))
		fill(i, 1, 20+7*i)
	}
	lay(t, r, 3, 6, word(99, held))
	fill(6, 1, 99)
	lay(t, r, 3, 7, 0)
	fill(7, 1, -1)
	lay(t, r, 2, 1, word(8, present|huge|write))
	fill(8, 8, 8)
	lay(t, r, 2, 3, word(1016, present|huge))
	fill(24, 8, 1016)
	lay(t, r, 2, 7, word(12, present|huge))
	fill(56, 8, -2)
	lay(t, r, 1, 1, word(64, present|huge))
	fill(64, 64, 64)
	lay(t, r, 1, 7, word(960, present|huge|write))
	fill(448, 64, 960)
	lay(t, r, 1, 6, word(5, held))
	fill(384, 64, -2)
	lay(t, r, 0, 7, word(4, present))
	lay(t, r, 4, 7, word(5, present))
	lay(t, r, 5, 7, word(6, present))
	lay(t, r, 6, 7, word(1023, present|write))
	fill(4095, 1, 1023)
	lay(t, r, 5, 6, word(8, present|huge|write))
	fill(4080, 8, 8)
	lay(t, r, 0, 3, math.MaxUint64)
	fill(3*512, 512, -2)
	// A table that two entries name is walked through from both.
	lay(t, r, 4, 0, word(2, present))
	copy(frames[7*512:7*512+64], frames[:64])
	return r, frames
}

// P7.2 and P7.4: all pages of a space, of which great leaves' pages stand one behind the other.
func TestSpace(t *testing.T) {
	r, frames := space(t)
	was := words(r)
	for page, frame := range frames {
		l, err := walk.Walk(r, 0, page)
		switch {
		case frame == -1 && (l != api.Leaf{} || err != api.ErrNone):
			t.Errorf("Walk(0, %d): %+v, %d; want ErrNone", page, l, err)
		case frame == -2 && (l != api.Leaf{} || err != api.ErrForm):
			t.Errorf("Walk(0, %d): %+v, %d; want ErrForm", page, l, err)
		case frame >= 0 && (l.Frame != frame || err != api.OK):
			t.Errorf("Walk(0, %d): %+v, %d; want the frame %d", page, l, err, frame)
		}
		checkWalk(t, "space", r, 0, page, model(r, 0, page))
	}
	for page := 1; page < 4096; page++ {
		a, aErr := walk.Walk(r, 0, page-1)
		b, bErr := walk.Walk(r, 0, page)
		if aErr == api.OK && bErr == api.OK && a.Level == b.Level && page%(1<<(3*a.Level)) != 0 && (a.Entry != b.Entry || b.Frame != a.Frame+1) {
			t.Errorf("the pages %d and %d of one leaf: %+v, %+v", page-1, page, a, b)
		}
	}
	unchanged(t, "walks", r, was)
}

// P7.3: every set of bits of a leaf, at every level that has leaves, for reading and for writing.
func TestMark(t *testing.T) {
	const page = 1*512 + 2*64 + 3*8 + 4
	for level := range 3 {
		for bits := range 64 {
			for _, writes := range []bool{false, true} {
				var low uint64
				for i, bit := range allBits {
					if bits>>i&1 == 1 {
						low |= bit
					}
				}
				r := line(t, 128, page)
				lay(t, r, 3-level, slot(page, level), word(64, low))
				checkMark(t, "every leaf", r, 0, page, writes, model(r, 0, page))
			}
		}
	}
}

// P7.3, written out.
func TestMarkWritten(t *testing.T) {
	const page = 4095
	for _, x := range []struct {
		level  int
		w      uint64
		writes bool
		err    api.Errno
		after  uint64
	}{
		{0, present, false, api.OK, present | used},
		{0, present, true, api.ErrFault, present},
		{0, present | used, true, api.ErrFault, present | used},
		{0, present | dirty, true, api.ErrFault, present | dirty},
		{0, present | dirty, false, api.OK, present | dirty | used},
		{0, present | write, false, api.OK, present | write | used},
		{0, present | write, true, api.OK, present | write | used | dirty},
		{0, present | write | used, true, api.OK, present | write | used | dirty},
		{0, present | write | dirty, false, api.OK, present | write | used | dirty},
		{0, present | write | used | dirty, false, api.OK, present | write | used | dirty},
		{0, held, false, api.ErrFault, held},
		{0, held, true, api.ErrFault, held},
		{0, held | used | dirty, true, api.ErrFault, held | used | dirty},
		{1, present | huge, false, api.OK, present | huge | used},
		{1, present | huge, true, api.ErrFault, present | huge},
		{1, present | huge | write, true, api.OK, present | huge | write | used | dirty},
		{2, present | huge, false, api.OK, present | huge | used},
		{2, present | huge, true, api.ErrFault, present | huge},
		{2, present | huge | write, true, api.OK, present | huge | write | used | dirty},
		{1, held, false, api.ErrForm, held},
		{2, present | held, false, api.ErrForm, present | held},
		{3, present | huge | write, true, api.ErrForm, present | huge | write},
	} {
		r := line(t, 128, page)
		lay(t, r, 3-x.level, 7, word(64, x.w))
		want := words(r)
		want[(3-x.level)*8+7] = word(64, x.after)
		if err := walk.Mark(r, 0, page, x.writes); err != x.err {
			t.Errorf("Mark of %#x at the level %d, %v: %d, want %d", x.w, x.level, x.writes, err, x.err)
		}
		unchanged(t, "marked", r, want)
	}
}

// P7.3: nothing that Mark would mark: no leaf; the errors of roots and pages; nothing changes.
func TestMarkErrors(t *testing.T) {
	r, frames := space(t)
	was := words(r)
	for page, frame := range frames {
		for _, writes := range []bool{false, true} {
			want := api.ErrNone
			switch {
			case frame == -2:
				want = api.ErrForm
			case frame != -1:
				continue
			}
			if err := walk.Mark(r, 0, page, writes); err != want {
				t.Errorf("Mark(0, %d, %v): %d, want %d", page, writes, err, want)
			}
		}
	}
	for _, x := range [][2]int{{-1, 0}, {1024, 0}, {0, -1}, {0, 4096}, {math.MinInt, math.MaxInt}} {
		if err := walk.Mark(r, x[0], x[1], false); err != api.ErrRange {
			t.Errorf("Mark(%d, %d): %d, want ErrRange", x[0], x[1], err)
		}
	}
	unchanged(t, "errors", r, was)
}

// P7.5: after each Mark all walks have the frames they had; pages of one leaf are marked together, others not.
func TestMarkKeeps(t *testing.T) {
	r, frames := space(t)
	for _, page := range []int{0, 1, 5, 6, 8, 15, 24, 31, 64, 127, 448, 511, 3584, 3592, 4080, 4087, 4095} {
		for _, writes := range []bool{false, true} {
			checkMark(t, "space", r, 0, page, writes, model(r, 0, page))
			for other, frame := range frames {
				want := model(r, 0, other)
				if frame >= 0 && want.leaf.Frame != frame {
					t.Fatalf("after Mark(0, %d, %v) the page %d stands on %d, not on %d", page, writes, other, want.leaf.Frame, frame)
				}
				checkWalk(t, "marked", r, 0, other, want)
			}
		}
	}
}

// R1 and P7.5: tables that name themselves, or one another: a walk ends, and Mark keeps where it goes.
func TestLoops(t *testing.T) {
	for _, bits := range []uint64{present, present | write} {
		r := newRam(t, 8)
		for i := range 8 {
			lay(t, r, 0, i, word(0, bits))
			lay(t, r, 1, i, word(2, bits))
			lay(t, r, 2, i, word(1, bits))
		}
		e, _ := entryOf(bits)
		checkWalk(t, "itself", r, 0, 83, walked{leaf: api.Leaf{Entry: e}, tables: []int{0, 0, 0, 0}})
		e.Frame = 1
		checkWalk(t, "one another", r, 1, 4095, walked{leaf: api.Leaf{Entry: e, Frame: 1}, tables: []int{1, 2, 1, 2}})
		for page := range 4096 {
			for root := range 4 {
				checkWalk(t, "loops", r, root, page, model(r, root, page))
			}
			if page%61 == 0 {
				checkMark(t, "loops", r, page%3, page, page%2 == 0, model(r, page%3, page))
			}
		}
	}
}

// P7.1 to P7.5 in memories full of entries by chance, most of which say something.
func TestChance(t *testing.T) {
	c := chance(7)
	seen := map[api.Errno]int{}
	for round := range 60 {
		frames := []int{8, 24, 64, 130, 256, 1024}[round%6]
		r := newRam(t, frames)
		for n := range frames * 8 {
			lay(t, r, n/8, n%8, anyWord(&c, frames))
		}
		for range 2000 {
			root, page := c.below(frames), c.below(4096)
			want := model(r, root, page)
			seen[want.err]++
			seen[api.Errno(-1-want.leaf.Level)]++
			checkWalk(t, "chance", r, root, page, want)
			if c.below(10) == 0 {
				checkMark(t, "chance", r, root, page, c.below(2) == 0, want)
			}
		}
	}
	for _, what := range []api.Errno{api.OK, api.ErrForm, api.ErrNone, -1, -2, -3} {
		if seen[what] < 200 {
			t.Errorf("of %d there were only %d", what, seen[what])
		}
	}
}

// anyWord tells a word: mostly a table's, or a leaf's that may be one.
func anyWord(c *chance, frames int) uint64 {
	bits := uint64(present | c.below(2)*write | c.below(2)*used | c.below(2)*dirty)
	switch c.below(24) {
	case 0:
		return 0
	case 1:
		return word(c.below(frames), held)
	case 2:
		return noEntry[c.below(len(noEntry))]
	case 3:
		return word(frames+c.below(3), bits)
	case 4, 5, 6, 7:
		return word(c.below(frames)/8*8, bits|huge)
	case 8, 9:
		return word(c.below(frames)/64*64, bits|huge)
	}
	return word(c.below(frames), bits)
}

// R3 and R4: what Path answers is new memory, and the same whenever it is asked.
func TestPathNew(t *testing.T) {
	r, _ := space(t)
	for _, page := range []int{0, 7, 8, 64, 200, 1000, 4095} {
		a, aErr := walk.Path(r, 0, page)
		was := slices.Clone(a)
		for i := range a {
			a[i] = -5
		}
		_ = append(a, -5)
		b, bErr := walk.Path(r, 0, page)
		if !slices.Equal(b, was) || aErr != bErr {
			t.Errorf("Path(0, %d): %v, %d; ahead of it %v, %d", page, b, bErr, was, aErr)
		}
	}
}
