package memory

import (
	"testing"

	"pantile/api"
)

// No call of a memory brings its parts apart, so here they are, frame by frame, from within.
func apart(t *testing.T, change func(m *Memory, frame int) api.Errno) {
	t.Helper()
	for _, n := range []int{8, 21} {
		for frame := range n {
			m, _ := New(n, 0)
			m.At(2, 0, api.FData)
			if err := change(m, frame); err == api.OK && m.Right() {
				t.Errorf("of %d frames: it is right, though what the parts say of the frame %d differs", n, frame)
			} else if err != api.OK && !m.Right() {
				t.Errorf("of %d frames: it is not right, though the parts say the same", n)
			}
		}
	}
}

// P17.5: it is not right if a frame is FFree, and not free.
func TestRightTaken(t *testing.T) {
	apart(t, func(m *Memory, frame int) api.Errno { return m.parts.free.TakeAt(frame, 0) })
}

// P17.5: it is not right if a frame is free, and not FFree.
func TestRightTurned(t *testing.T) {
	for is := api.FTable; is <= api.FAway; is++ {
		apart(t, func(m *Memory, frame int) api.Errno { return m.parts.states.Turn(frame, 1, api.FFree, is) })
	}
	apart(t, func(m *Memory, frame int) api.Errno { return m.parts.free.Give(frame, 0) })
	apart(t, func(m *Memory, frame int) api.Errno { return m.parts.states.Turn(frame, 1, api.FData, api.FFree) })
}
