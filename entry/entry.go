// Package entry is layer 1: see shared/doc/01-entry.md.
package entry

import "pantile/api"

// Where an entry's parts stand in its word.
const (
	bitPresent = 0
	bitWrite   = 1
	bitUsed    = 5
	bitDirty   = 6
	bitHuge    = 7
	bitHeld    = 9
	frameShift = 12
)

// Check tells what is wrong with an entry.
func Check(e api.Entry) api.Errno {
	if e.Frame < 0 || e.Frame >= api.MaxEntry {
		return api.ErrRange
	}
	if !mayBe(e) {
		return api.ErrArg
	}
	return api.OK
}

// Pack lays an entry.
func Pack(e api.Entry) (uint64, api.Errno) {
	if err := Check(e); err != api.OK {
		return 0, err
	}
	w := uint64(e.Frame) << frameShift
	put := putter(&w)
	put(bitPresent, e.Present)
	put(bitWrite, e.Write)
	put(bitUsed, e.Used)
	put(bitDirty, e.Dirty)
	put(bitHuge, e.Huge)
	put(bitHeld, e.Held)
	return w, api.OK
}

// Unpack reads an entry.
func Unpack(w uint64) (api.Entry, api.Errno) {
	has := asker(w)
	e := api.Entry{
		Frame:   int(w >> frameShift),
		Present: has(bitPresent),
		Write:   has(bitWrite),
		Used:    has(bitUsed),
		Dirty:   has(bitDirty),
		Huge:    has(bitHuge),
		Held:    has(bitHeld),
	}
	// Laid again it shows bits that no part of an entry stands in.
	if again, err := Pack(e); err != api.OK || again != w {
		return api.Entry{}, api.ErrForm
	}
	return e, api.OK
}

// Prot tells what may be done.
func Prot(e api.Entry) int {
	if !e.Present {
		return api.ProtNone
	}
	if e.Write {
		return api.ProtWrite
	}
	return api.ProtRead
}

// Allow lets something be done.
func Allow(e api.Entry, prot int) (api.Entry, api.Errno) {
	if err := Check(e); err != api.OK {
		return api.Entry{}, err
	}
	if prot != api.ProtNone && prot != api.ProtRead && prot != api.ProtWrite {
		return api.Entry{}, api.ErrArg
	}
	if nothing(e) {
		return api.Entry{}, api.ErrNone
	}
	if prot != api.ProtNone {
		return open(e, prot == api.ProtWrite), api.OK
	}
	if e.Huge {
		return api.Entry{}, api.ErrForm
	}
	return api.Entry{Frame: e.Frame, Held: true}, api.OK
}

// open tells an entry that may be used, and written only if write says so.
func open(e api.Entry, write bool) api.Entry {
	e.Present, e.Held = true, false
	e.Write = write
	// Dirty goes with Write: an entry that lets nobody write is no dirty one.
	e.Dirty = e.Dirty && write
	return e
}

// mayBe tells whether an entry's bits go together; its frame is another question.
func mayBe(e api.Entry) bool {
	if e.Present {
		return !e.Held
	}
	if e.Held {
		return !e.Huge && !e.Write
	}
	return nothing(e)
}

func nothing(e api.Entry) bool { return e == api.Entry{} }

// putter makes a function that puts bits into a word.
func putter(w *uint64) func(bit uint, on bool) {
	return func(bit uint, on bool) {
		if on {
			*w |= 1 << bit
		}
	}
}

// asker makes a function that asks a word for its bits.
func asker(w uint64) func(bit uint) bool {
	return func(bit uint) bool { return w>>bit&1 == 1 }
}
