package ram_test

import (
	"bytes"
	"math"
	"testing"

	"pantile/api"
	"pantile/ram"
)

// plain is a memory once more, byte by byte, with no word in it.
type plain []byte

func (p plain) store(at int, w uint64) {
	for i := range 8 {
		p[at+i] = byte(w)
		w /= 256
	}
}

func (p plain) load(at int) uint64 {
	w := uint64(0)
	for i := 7; i >= 0; i-- {
		w = w*256 + uint64(p[at+i])
	}
	return w
}

func (p plain) zero(frame, n int) {
	for at := frame * 64; at < (frame+n)*64; at++ {
		p[at] = 0
	}
}

func (p plain) copy(to, from, n int) {
	was := bytes.Clone(p)
	for i := range n * 64 {
		p[to*64+i] = was[from*64+i]
	}
}

func newRam(t *testing.T, frames int) *ram.Ram {
	t.Helper()
	r, err := ram.New(frames)
	if r == nil || err != api.OK {
		t.Fatalf("New(%d): %v, %d", frames, r, err)
	}
	return r
}

// pattern tells a word that no other address has: the factor is odd, so nothing comes twice, and all its bytes are in use.
func pattern(at int) uint64 { return uint64(at+1) * 0x9E3779B97F4A7C15 }

// filled makes a memory in which each word says something, and what it should be.
func filled(t *testing.T, frames int) (*ram.Ram, plain) {
	t.Helper()
	r, p := newRam(t, frames), make(plain, frames*64)
	for at := 0; at < len(p); at += 8 {
		if err := r.Store(at, pattern(at)); err != api.OK {
			t.Fatalf("Store(%d): %d", at, err)
		}
		p.store(at, pattern(at))
	}
	return r, p
}

// same: all of a memory is as it should be, by bytes and by words.
func same(t *testing.T, what string, r *ram.Ram, p plain) {
	t.Helper()
	if got := r.Frames(); got != len(p)/64 {
		t.Fatalf("%s: %d frames, want %d", what, got, len(p)/64)
	}
	for at := range p {
		if b, err := r.Byte(at); b != p[at] || err != api.OK {
			t.Fatalf("%s: Byte(%d): %d, %d; want %d", what, at, b, err, p[at])
		}
		if at%8 != 0 {
			continue
		}
		if w, err := r.Load(at); w != p.load(at) || err != api.OK {
			t.Fatalf("%s: Load(%d): %#x, %d; want %#x", what, at, w, err, p.load(at))
		}
	}
}

// P2.1: so many frames as were asked, all bytes 0.
func TestNew(t *testing.T) {
	for _, frames := range []int{8, 9, 15, 16, 64, 1000, 1023, 1024} {
		same(t, "new", newRam(t, frames), make(plain, frames*64))
	}
}

// P2.1: so many frames as may not be.
func TestNewErrors(t *testing.T) {
	for _, frames := range []int{math.MinInt, -1024, -8, -1, 0, 1, 7, 1025, 2048, 1 << 32, math.MaxInt} {
		if r, err := ram.New(frames); r != nil || err != api.ErrArg {
			t.Errorf("New(%d): %v, %d; want nil, ErrArg", frames, r, err)
		}
	}
}

// Numbers of all sorts, for what must not look at them.
var sorts = []int{math.MinInt, -64, -1, 0, 1, 4, 7, 8, 64, 511, 512, 1023, 1024, 65536, math.MaxInt}

// A nil memory: 0, and ErrNil ahead of all else.
func TestNil(t *testing.T) {
	var r *ram.Ram
	if got := r.Frames(); got != 0 {
		t.Errorf("Frames: %d", got)
	}
	for _, a := range sorts {
		if w, err := r.Load(a); w != 0 || err != api.ErrNil {
			t.Errorf("Load(%d): %d, %d", a, w, err)
		}
		if err := r.Store(a, 5); err != api.ErrNil {
			t.Errorf("Store(%d): %d", a, err)
		}
		if b, err := r.Byte(a); b != 0 || err != api.ErrNil {
			t.Errorf("Byte(%d): %d, %d", a, b, err)
		}
		for _, n := range sorts {
			if err := r.Zero(a, n); err != api.ErrNil {
				t.Errorf("Zero(%d, %d): %d", a, n, err)
			}
			for _, from := range sorts {
				if err := r.Copy(a, from, n); err != api.ErrNil {
					t.Errorf("Copy(%d, %d, %d): %d", a, from, n, err)
				}
			}
		}
	}
}

// The chapter's examples.
func TestExamples(t *testing.T) {
	r := newRam(t, 8)
	if err := r.Store(64, 258); err != api.OK {
		t.Fatalf("Store(64, 258): %d", err)
	}
	for at, want := range map[int]byte{63: 0, 64: 2, 65: 1, 66: 0} {
		if b, err := r.Byte(at); b != want || err != api.OK {
			t.Errorf("Byte(%d): %d, %d; want %d", at, b, err, want)
		}
	}
	if err := r.Copy(3, 1, 1); err != api.OK {
		t.Errorf("Copy(3, 1, 1): %d", err)
	}
	if w, err := r.Load(192); w != 258 || err != api.OK {
		t.Errorf("Load(192): %d, %d", w, err)
	}
	if w, err := r.Load(4); w != 0 || err != api.ErrAlign {
		t.Errorf("Load(4): %d, %d", w, err)
	}
}

// P2.2 and P2.4: a word's byte i is what it has from bit 8 i on, at every address and for every bit.
func TestLittleEnds(t *testing.T) {
	for _, frames := range []int{8, 1024} {
		last := frames*64 - 8
		for _, at := range []int{0, 8, 56, 64, 256, last - 56, last} {
			r, p := newRam(t, frames), make(plain, frames*64)
			for bit := range 64 {
				checkBytes(t, r, at, 1<<bit)
			}
			checkBytes(t, r, at, 0)
			checkBytes(t, r, at, math.MaxUint64)
			checkBytes(t, r, at, 0x8877665544332211)
			p.store(at, 0x8877665544332211)
			same(t, "one word", r, p)
		}
	}
}

func checkBytes(t *testing.T, r *ram.Ram, at int, w uint64) {
	t.Helper()
	if err := r.Store(at, w); err != api.OK {
		t.Errorf("Store(%d, %#x): %d", at, w, err)
	}
	if got, err := r.Load(at); got != w || err != api.OK {
		t.Errorf("Load(%d): %#x, %d; want %#x", at, got, err, w)
	}
	for i := range 8 {
		want := byte(w >> (8 * i))
		if b, err := r.Byte(at + i); b != want || err != api.OK {
			t.Errorf("word %#x: Byte(%d): %d, %d; want %d", w, at+i, b, err, want)
		}
	}
}

// P2.2 and P2.5: each word has a place of its own, and Store changes no other one.
func TestStore(t *testing.T) {
	for _, frames := range []int{8, 9, 1024} {
		r, p := filled(t, frames)
		same(t, "filled", r, p)
		last := frames*64 - 8
		for _, at := range []int{0, 56, 64, 120, last - 56, last} {
			if err := r.Store(at, 1<<63+5); err != api.OK {
				t.Errorf("Store(%d): %d", at, err)
			}
			p.store(at, 1<<63+5)
			same(t, "stored", r, p)
		}
	}
}

// Addresses that are wrong, or even no more than a byte's, from the end on.
func TestAddresses(t *testing.T) {
	for _, frames := range []int{8, 9, 1024} {
		r, p := filled(t, frames)
		end := frames * 64
		for _, at := range []int{
			math.MinInt, math.MinInt + 1, math.MinInt / 8, -end, -64, -8, -7, -1,
			end, end + 1, end + 7, end + 8, end + 64, 1 << 32, math.MaxInt - 7, math.MaxInt,
		} {
			checkAddress(t, r, at, api.ErrRange, api.ErrRange)
		}
		for _, base := range []int{0, 8, 64, 200, end - 16, end - 8} {
			checkAddress(t, r, base, api.OK, api.OK)
			for i := 1; i < 8; i++ {
				checkAddress(t, r, base+i, api.ErrAlign, api.OK)
			}
		}
		same(t, "wrong addresses", r, p)
	}
}

// checkAddress: the errors of a word's and of a byte's address; what is stored where one is wrong is nowhere.
func checkAddress(t *testing.T, r *ram.Ram, at int, word, one api.Errno) {
	t.Helper()
	if w, err := r.Load(at); err != word || err != api.OK && w != 0 {
		t.Errorf("Load(%d): %#x, %d; want error %d", at, w, err, word)
	}
	if b, err := r.Byte(at); err != one || err != api.OK && b != 0 {
		t.Errorf("Byte(%d): %d, %d; want error %d", at, b, err, one)
	}
	if word == api.OK {
		return
	}
	if err := r.Store(at, math.MaxUint64); err != word {
		t.Errorf("Store(%d): %d, want %d", at, err, word)
	}
}

// P2.3 and P2.5: Zero of every stretch of a small memory.
func TestZero(t *testing.T) {
	for frame := range 9 {
		for n := 1; frame+n <= 9; n++ {
			r, p := filled(t, 9)
			if err := r.Zero(frame, n); err != api.OK {
				t.Errorf("Zero(%d, %d): %d", frame, n, err)
			}
			p.zero(frame, n)
			same(t, "zero", r, p)
		}
	}
}

// P2.3 and P2.5: Copy between every two stretches: apart, touching, over each other both ways, and the same one.
func TestCopy(t *testing.T) {
	for n := 1; n <= 9; n++ {
		for to := 0; to+n <= 9; to++ {
			for from := 0; from+n <= 9; from++ {
				r, p := filled(t, 9)
				if err := r.Copy(to, from, n); err != api.OK {
					t.Errorf("Copy(%d, %d, %d): %d", to, from, n, err)
				}
				p.copy(to, from, n)
				same(t, "copy", r, p)
			}
		}
	}
}

// P2.3 at both ends of the least and of the greatest memory.
func TestEnds(t *testing.T) {
	for _, frames := range []int{8, 1024} {
		half, last := frames/2, frames-1
		for _, x := range [][3]int{
			{0, last, 1}, {last, 0, 1}, {0, 0, frames}, {last, last, 1},
			{0, half, half}, {half, 0, half}, {0, 1, last}, {1, 0, last}, {half - 1, half, half},
		} {
			r, p := filled(t, frames)
			if err := r.Copy(x[0], x[1], x[2]); err != api.OK {
				t.Errorf("Copy(%d, %d, %d): %d", x[0], x[1], x[2], err)
			}
			p.copy(x[0], x[1], x[2])
			same(t, "copy at the ends", r, p)
		}
		for _, x := range [][2]int{{0, 1}, {last, 1}, {0, last}, {1, last}, {half, half}, {0, frames}} {
			r, p := filled(t, frames)
			if err := r.Zero(x[0], x[1]); err != api.OK {
				t.Errorf("Zero(%d, %d): %d", x[0], x[1], err)
			}
			p.zero(x[0], x[1])
			same(t, "zero at the ends", r, p)
		}
	}
}

// wantFrames says the chapter's words of stretches once more; the numbers are such that no sum is too great.
func wantFrames(frames int, n int, firsts ...int) api.Errno {
	if n < 1 {
		return api.ErrArg
	}
	for _, first := range firsts {
		if first < 0 || first > frames || n > frames || first+n > frames {
			return api.ErrRange
		}
	}
	return api.OK
}

// P2.3: Zero and Copy of frames that are none, and of no frames, change nothing; ErrArg comes first.
func TestFrameErrors(t *testing.T) {
	for _, frames := range []int{8, 1024} {
		r, p := filled(t, frames)
		numbers := []int{
			math.MinInt, math.MinInt + 1, -frames, -1, 0, 1, frames - 1, frames, frames + 1,
			1 << 32, 1 << 57, 1 << 58, 1 << 60, math.MaxInt - frames + 1, math.MaxInt - 1, math.MaxInt,
		}
		for _, n := range numbers {
			for _, to := range numbers {
				if want := wantFrames(frames, n, to); want != api.OK {
					if err := r.Zero(to, n); err != want {
						t.Errorf("Zero(%d, %d): %d, want %d", to, n, err, want)
					}
				}
				for _, from := range numbers {
					if want := wantFrames(frames, n, to, from); want != api.OK {
						if err := r.Copy(to, from, n); err != want {
							t.Errorf("Copy(%d, %d, %d): %d, want %d", to, from, n, err, want)
						}
					}
				}
			}
		}
		same(t, "wrong frames", r, p)
	}
}

// The errors of stretches, written out.
func TestFrameErrorsWritten(t *testing.T) {
	r, p := filled(t, 8)
	for _, x := range []struct {
		to, from, n int
		want        api.Errno
	}{
		{7, 0, 2, api.ErrRange},
		{0, 7, 2, api.ErrRange},
		{8, 0, 1, api.ErrRange},
		{0, 8, 1, api.ErrRange},
		{-1, 0, 1, api.ErrRange},
		{0, -1, 1, api.ErrRange},
		{-1, 0, 2, api.ErrRange},
		{0, 1, 8, api.ErrRange},
		{1, 0, 8, api.ErrRange},
		{0, 0, 9, api.ErrRange},
		{7, 7, math.MaxInt, api.ErrRange},
		{math.MaxInt, math.MaxInt, math.MaxInt, api.ErrRange},
		{math.MinInt, math.MinInt, math.MaxInt, api.ErrRange},
		{7, 0, 0, api.ErrArg},
		{0, 0, -1, api.ErrArg},
		{8, 8, 0, api.ErrArg},
		{-1, 9, math.MinInt, api.ErrArg},
		{math.MaxInt, math.MinInt, 0, api.ErrArg},
	} {
		if err := r.Copy(x.to, x.from, x.n); err != x.want {
			t.Errorf("Copy(%d, %d, %d): %d, want %d", x.to, x.from, x.n, err, x.want)
		}
	}
	for _, x := range []struct {
		frame, n int
		want     api.Errno
	}{
		{7, 2, api.ErrRange}, {8, 1, api.ErrRange}, {-1, 1, api.ErrRange}, {-1, 2, api.ErrRange}, {0, 9, api.ErrRange},
		{7, math.MaxInt, api.ErrRange}, {math.MaxInt, 1, api.ErrRange}, {math.MinInt, 1, api.ErrRange},
		{7, 0, api.ErrArg}, {8, 0, api.ErrArg}, {-1, -1, api.ErrArg}, {math.MinInt, math.MinInt, api.ErrArg},
	} {
		if err := r.Zero(x.frame, x.n); err != x.want {
			t.Errorf("Zero(%d, %d): %d, want %d", x.frame, x.n, err, x.want)
		}
	}
	same(t, "wrong frames", r, p)
}

// P2.5: frames that were copied are apart behind it, and so are two memories.
func TestApart(t *testing.T) {
	r, p := filled(t, 8)
	other, q := filled(t, 8)
	if err := r.Copy(5, 2, 2); err != api.OK {
		t.Errorf("Copy(5, 2, 2): %d", err)
	}
	p.copy(5, 2, 2)
	for _, at := range []int{2 * 64, 3*64 + 56, 6 * 64} {
		if err := r.Store(at, 9); err != api.OK {
			t.Errorf("Store(%d): %d", at, err)
		}
		p.store(at, 9)
		same(t, "copied and stored", r, p)
	}
	if err := r.Zero(2, 1); err != api.OK {
		t.Errorf("Zero(2, 1): %d", err)
	}
	p.zero(2, 1)
	same(t, "copied and cleared", r, p)
	same(t, "another memory", other, q)
}
