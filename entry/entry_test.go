package entry_test

import (
	"math"
	"testing"

	"pantile/api"
	"pantile/entry"
)

// Frames that an entry can name, and such that none can.
var (
	goodFrames = []int{0, 1, 5, 4095, 4096, api.MaxEntry/2 + 1, api.MaxEntry - 1}
	badFrames  = []int{math.MinInt, -api.MaxEntry, -1, api.MaxEntry, api.MaxEntry + 5, math.MaxInt}
)

// kinds tells all 64 ways to set an entry's bits, with that frame.
func kinds(frame int) []api.Entry {
	var l []api.Entry
	for n := range 64 {
		l = append(l, api.Entry{
			Frame:   frame,
			Present: n&1 != 0,
			Write:   n&2 != 0,
			Huge:    n&4 != 0,
			Held:    n&8 != 0,
			Used:    n&16 != 0,
			Dirty:   n&32 != 0,
		})
	}
	return l
}

// wantCheck says the chapter's words of what may be once more, as a list of what may not.
func wantCheck(e api.Entry) api.Errno {
	switch {
	case e.Frame < 0 || e.Frame > 1048575:
		return api.ErrRange
	case e.Present && e.Held:
		return api.ErrArg
	case e.Held && (e.Huge || e.Write):
		return api.ErrArg
	case !e.Present && !e.Held && (e.Frame != 0 || e.Write || e.Huge || e.Used || e.Dirty):
		return api.ErrArg
	}
	return api.OK
}

// wantWord sums what each bit counts; frames by multiplying, not by shifting.
func wantWord(e api.Entry) uint64 {
	w := uint64(e.Frame) * 4096
	for _, x := range []struct {
		on    bool
		worth uint64
	}{{e.Present, 1}, {e.Write, 2}, {e.Used, 32}, {e.Dirty, 64}, {e.Huge, 128}, {e.Held, 512}} {
		if x.on {
			w += x.worth
		}
	}
	return w
}

// The entries that the chapter allows and their words, written out (P1.1, P1.2).
var laid = []struct {
	e api.Entry
	w uint64
}{
	{api.Entry{}, 0},
	{api.Entry{Frame: 5, Present: true, Write: true}, 20483},
	{api.Entry{Present: true}, 0x1},
	{api.Entry{Present: true, Write: true}, 0x3},
	{api.Entry{Present: true, Used: true}, 0x21},
	{api.Entry{Present: true, Dirty: true}, 0x41},
	{api.Entry{Present: true, Huge: true}, 0x81},
	{api.Entry{Held: true}, 0x200},
	{api.Entry{Held: true, Used: true}, 0x220},
	{api.Entry{Held: true, Dirty: true}, 0x240},
	{api.Entry{Frame: 1, Present: true}, 0x1001},
	{api.Entry{Frame: 7, Held: true, Used: true, Dirty: true}, 0x7260},
	{api.Entry{Frame: api.MaxEntry - 1, Held: true}, 0xFFFFF200},
	{api.Entry{Frame: api.MaxEntry - 1, Present: true, Write: true, Used: true, Dirty: true, Huge: true}, 0xFFFFF0E3},
}

func TestLaid(t *testing.T) {
	for _, x := range laid {
		if err := entry.Check(x.e); err != api.OK {
			t.Errorf("Check(%+v): %d", x.e, err)
		}
		if w, err := entry.Pack(x.e); w != x.w || err != api.OK {
			t.Errorf("Pack(%+v): %#x, %d; want %#x", x.e, w, err, x.w)
		}
		if e, err := entry.Unpack(x.w); e != x.e || err != api.OK {
			t.Errorf("Unpack(%#x): %+v, %d; want %+v", x.w, e, err, x.e)
		}
	}
}

// Entries that may not be, and which error comes first (P1.1).
var forbidden = []struct {
	e   api.Entry
	err api.Errno
}{
	{api.Entry{Frame: -1, Present: true}, api.ErrRange},
	{api.Entry{Frame: api.MaxEntry, Present: true}, api.ErrRange},
	{api.Entry{Frame: -1}, api.ErrRange},
	{api.Entry{Frame: api.MaxEntry}, api.ErrRange},
	{api.Entry{Frame: math.MinInt, Present: true, Held: true}, api.ErrRange},
	{api.Entry{Frame: math.MaxInt, Held: true, Huge: true}, api.ErrRange},
	{api.Entry{Present: true, Held: true}, api.ErrArg},
	{api.Entry{Frame: 3, Present: true, Held: true}, api.ErrArg},
	{api.Entry{Frame: 3, Held: true, Huge: true}, api.ErrArg},
	{api.Entry{Frame: 3, Held: true, Write: true}, api.ErrArg},
	{api.Entry{Frame: 3}, api.ErrArg},
	{api.Entry{Frame: api.MaxEntry - 1}, api.ErrArg},
	{api.Entry{Write: true}, api.ErrArg},
	{api.Entry{Huge: true}, api.ErrArg},
	{api.Entry{Used: true}, api.ErrArg},
	{api.Entry{Dirty: true}, api.ErrArg},
}

func TestForbidden(t *testing.T) {
	for _, x := range forbidden {
		if err := entry.Check(x.e); err != x.err {
			t.Errorf("Check(%+v): %d, want %d", x.e, err, x.err)
		}
		if w, err := entry.Pack(x.e); w != 0 || err != x.err {
			t.Errorf("Pack(%+v): %#x, %d; want 0, %d", x.e, w, err, x.err)
		}
		for _, prot := range []int{0, 1, 2, 3} {
			if got, err := entry.Allow(x.e, prot); got != (api.Entry{}) || err != x.err {
				t.Errorf("Allow(%+v, %d): %+v, %d; want nothing, %d", x.e, prot, got, err, x.err)
			}
		}
	}
}

// P1.1 for every set of bits with frames of all sorts; P1.4 for those that may be.
func TestEveryEntry(t *testing.T) {
	for _, frame := range append(append([]int{}, goodFrames...), badFrames...) {
		for _, e := range kinds(frame) {
			want := wantCheck(e)
			if err := entry.Check(e); err != want {
				t.Errorf("Check(%+v): %d, want %d", e, err, want)
			}
			w, err := entry.Pack(e)
			if err != want {
				t.Errorf("Pack(%+v): %d, want %d", e, err, want)
			}
			if want != api.OK {
				if w != 0 {
					t.Errorf("Pack(%+v): %#x beside an error", e, w)
				}
				continue
			}
			if w != wantWord(e) {
				t.Errorf("Pack(%+v): %#x, want %#x", e, w, wantWord(e))
			}
			if back, err := entry.Unpack(w); back != e || err != api.OK {
				t.Errorf("Unpack(Pack(%+v)): %+v, %d", e, back, err)
			}
		}
	}
}

// words tells which words entries with that frame have, each with its entry.
func words(frame int) map[uint64]api.Entry {
	m := map[uint64]api.Entry{}
	for _, e := range kinds(frame) {
		if wantCheck(e) == api.OK {
			m[wantWord(e)] = e
		}
	}
	return m
}

func checkUnpack(t *testing.T, w uint64, want api.Entry, ok bool) {
	t.Helper()
	e, err := entry.Unpack(w)
	if !ok {
		if e != (api.Entry{}) || err != api.ErrForm {
			t.Errorf("Unpack(%#x): %+v, %d; want nothing, ErrForm", w, e, err)
		}
		return
	}
	if e != want || err != api.OK {
		t.Errorf("Unpack(%#x): %+v, %d; want %+v", w, e, err, want)
		return
	}
	if back, err := entry.Pack(e); back != w || err != api.OK {
		t.Errorf("Pack(Unpack(%#x)): %#x, %d", w, back, err)
	}
}

// P1.2 and P1.4 for each set of the twelve low bits: 16 words say Present, 4 Held, and one (of the frame 0) nothing.
func TestLowBits(t *testing.T) {
	for _, frame := range goodFrames {
		have := words(frame)
		count := 20
		if frame == 0 {
			count = 21
		}
		if len(have) != count {
			t.Fatalf("frame %d: %d words, want %d", frame, len(have), count)
		}
		for low := range uint64(4096) {
			w := uint64(frame)*4096 + low
			e, ok := have[w]
			checkUnpack(t, w, e, ok)
		}
	}
}

// P1.2: a frame that no entry can name, by each bit above the frame's twenty, alone and beside all sorts of words.
func TestHighBits(t *testing.T) {
	for bit := uint(32); bit < 64; bit++ {
		for _, frame := range goodFrames {
			for w := range words(frame) {
				checkUnpack(t, w|1<<bit, api.Entry{}, false)
			}
		}
	}
	for _, w := range []uint64{2, math.MaxUint64, 1 << 63, 1<<63 + 1, 1 << 12, 1<<32 + 1, 1<<32 - 1, 0xFFFFF000} {
		checkUnpack(t, w, api.Entry{}, false)
	}
}

// P1.3: Prot looks at Present and Write alone.
func TestProt(t *testing.T) {
	for _, x := range []struct {
		e    api.Entry
		want int
	}{
		{api.Entry{}, 0},
		{api.Entry{Frame: 5, Held: true, Used: true, Dirty: true}, 0},
		{api.Entry{Frame: 5, Present: true}, 1},
		{api.Entry{Frame: 5, Present: true, Huge: true, Used: true, Dirty: true}, 1},
		{api.Entry{Frame: 5, Present: true, Write: true}, 3},
		{api.Entry{Frame: 5, Present: true, Write: true, Huge: true}, 3},
		{api.Entry{Frame: 5, Write: true}, 0},
		{api.Entry{Frame: -1, Present: true, Write: true}, 3},
		{api.Entry{Present: true, Held: true}, 1},
	} {
		if got := entry.Prot(x.e); got != x.want {
			t.Errorf("Prot(%+v): %d, want %d", x.e, got, x.want)
		}
	}
}

// P1.3, written out.
func TestAllow(t *testing.T) {
	for _, x := range []struct {
		e    api.Entry
		prot int
		want api.Entry
	}{
		{api.Entry{Frame: 5, Present: true}, 0, api.Entry{Frame: 5, Held: true}},
		{api.Entry{Frame: 5, Present: true, Write: true, Used: true, Dirty: true}, 0, api.Entry{Frame: 5, Held: true}},
		{api.Entry{Frame: 5, Held: true, Used: true, Dirty: true}, 0, api.Entry{Frame: 5, Held: true}},
		{api.Entry{Present: true}, 0, api.Entry{Held: true}},
		{api.Entry{Frame: 5, Held: true}, 1, api.Entry{Frame: 5, Present: true}},
		{api.Entry{Frame: 5, Held: true}, 3, api.Entry{Frame: 5, Present: true, Write: true}},
		{api.Entry{Held: true}, 3, api.Entry{Present: true, Write: true}},
		{api.Entry{Frame: 5, Held: true, Used: true, Dirty: true}, 3, api.Entry{Frame: 5, Present: true, Write: true, Used: true, Dirty: true}},
		{api.Entry{Frame: 5, Held: true, Used: true, Dirty: true}, 1, api.Entry{Frame: 5, Present: true, Used: true}},
		{api.Entry{Frame: 8, Present: true, Write: true, Huge: true, Used: true, Dirty: true}, 1, api.Entry{Frame: 8, Present: true, Huge: true, Used: true}},
		{api.Entry{Frame: 8, Present: true, Write: true, Huge: true, Used: true, Dirty: true}, 3, api.Entry{Frame: 8, Present: true, Write: true, Huge: true, Used: true, Dirty: true}},
		{api.Entry{Frame: 8, Present: true, Huge: true}, 3, api.Entry{Frame: 8, Present: true, Write: true, Huge: true}},
		{api.Entry{Frame: 8, Present: true}, 3, api.Entry{Frame: 8, Present: true, Write: true}},
		{api.Entry{Frame: 8, Present: true, Dirty: true}, 3, api.Entry{Frame: 8, Present: true, Write: true, Dirty: true}},
		{api.Entry{Frame: 8, Present: true, Dirty: true}, 1, api.Entry{Frame: 8, Present: true}},
		{api.Entry{Frame: api.MaxEntry - 1, Present: true}, 0, api.Entry{Frame: api.MaxEntry - 1, Held: true}},
	} {
		if got, err := entry.Allow(x.e, x.prot); got != x.want || err != api.OK {
			t.Errorf("Allow(%+v, %d): %+v, %d; want %+v", x.e, x.prot, got, err, x.want)
		}
	}
}

// P1.3: which of several errors is answered, and nothing beside it.
func TestAllowErrors(t *testing.T) {
	here := api.Entry{Frame: 8, Present: true}
	huge := api.Entry{Frame: 8, Present: true, Huge: true}
	for _, x := range []struct {
		e    api.Entry
		prot int
		want api.Errno
	}{
		{here, 2, api.ErrArg},
		{here, -1, api.ErrArg},
		{here, 4, api.ErrArg},
		{here, 5, api.ErrArg},
		{here, 7, api.ErrArg},
		{here, math.MinInt, api.ErrArg},
		{here, math.MaxInt, api.ErrArg},
		{huge, 2, api.ErrArg},
		{huge, 0, api.ErrForm},
		{api.Entry{}, 0, api.ErrNone},
		{api.Entry{}, 1, api.ErrNone},
		{api.Entry{}, 3, api.ErrNone},
		{api.Entry{}, 2, api.ErrArg},
		{api.Entry{Frame: -1, Present: true}, 2, api.ErrRange},
		{api.Entry{Frame: api.MaxEntry, Present: true, Huge: true}, 0, api.ErrRange},
		{api.Entry{Frame: 8, Held: true, Huge: true}, 0, api.ErrArg},
	} {
		if got, err := entry.Allow(x.e, x.prot); got != (api.Entry{}) || err != x.want {
			t.Errorf("Allow(%+v, %d): %+v, %d; want nothing, %d", x.e, x.prot, got, err, x.want)
		}
	}
}

// P1.5, for every entry that may be: what is allowed is an entry that may be, of which just that may be done.
func TestAllowed(t *testing.T) {
	for _, frame := range goodFrames {
		for w, e := range words(frame) {
			if w == 0 {
				continue
			}
			for _, prot := range []int{0, 1, 3} {
				got, err := entry.Allow(e, prot)
				if prot == 0 && e.Huge {
					if err != api.ErrForm {
						t.Errorf("Allow(%+v, 0): %d, want ErrForm", e, err)
					}
					continue
				}
				if err != api.OK || entry.Check(got) != api.OK || entry.Prot(got) != prot {
					t.Errorf("Allow(%+v, %d): %+v, %d", e, prot, got, err)
				}
				if got.Frame != e.Frame || got.Huge != e.Huge {
					t.Errorf("Allow(%+v, %d): %+v has lost Frame or Huge", e, prot, got)
				}
				checkBits(t, e, got, prot)
			}
		}
	}
}

// checkBits: Used stays and Dirty stays where it may be written; without any right both go.
func checkBits(t *testing.T, e, got api.Entry, prot int) {
	t.Helper()
	used, dirty := e.Used, e.Dirty
	if prot == 0 {
		used = false
	}
	if prot != 3 {
		dirty = false
	}
	if got.Used != used || got.Dirty != dirty || got.Held != (prot == 0) {
		t.Errorf("Allow(%+v, %d): %+v", e, prot, got)
	}
}
