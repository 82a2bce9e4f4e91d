package gap

import (
	"testing"

	"pantile/api"
)

// checked goes through all nodes below one, and holds what each says against what lies below it; it tells the height and the stretches.
func checked(t *testing.T, n *node) (int, []stretch) {
	t.Helper()
	if n == nil {
		return 0, nil
	}
	left, ahead := checked(t, n.left)
	right, behind := checked(t, n.right)
	if left-right > 1 || right-left > 1 {
		t.Fatalf("at %v: the heights are %d and %d", n.stretch, left, right)
	}
	l := append(append(ahead, n.stretch), behind...)
	great := 0
	for i, s := range l {
		if s.from < 1 || s.to > api.Pages || s.from >= s.to || i > 0 && s.from < l[i-1].to {
			t.Fatalf("at %v: the stretches are %v", n.stretch, l)
		}
		if i > 0 {
			great = max(great, s.from-l[i-1].to)
		}
	}
	if h := 1 + max(left, right); n.height != h {
		t.Fatalf("at %v: the height is %d, it says %d", n.stretch, h, n.height)
	}
	if first, last := l[0].from, l[len(l)-1].to; n.first != first || n.last != last || n.gap != great {
		t.Fatalf("at %v: %d, %d and %d; it says %d, %d and %d", n.stretch, first, last, great, n.first, n.last, n.gap)
	}
	return n.height, l
}

// whole checks a tree from its root on.
func whole(t *testing.T, x *Tree) {
	t.Helper()
	height, l := checked(t, x.root)
	if h, n := x.Height(), x.Len(); h != height || n != len(l) {
		t.Fatalf("Height, Len: %d, %d; want %d, %d", h, n, height, len(l))
	}
}

// P18.5: each node is balanced after every call, whichever row of puts, dels and cuts it was.
func TestBalanced(t *testing.T) {
	for _, step := range []int{1, 254, 7, 97, 128} {
		x := New()
		for i := range 255 {
			page := 1 + 16*(i*step%255)
			x.Put(page, page+3)
			x.Put(page+3, page+8)
			whole(t, x)
		}
		for i := range 255 {
			page := 1 + 16*(i*101%255)
			x.Cut(page+1, page+1+i%40)
			x.Del(page, page+3)
			whole(t, x)
		}
		for i := range 40 {
			x.Cut(1+i*100, min(150+i*117, api.Pages))
			whole(t, x)
		}
	}
}

// thin makes a tree of a height with as few stretches as it can have, from a page on; the higher side of each node is on the right, on the left, or the one or the other by turns. It tells the first page behind it, too.
func thin(height, page, lean int) (*node, int) {
	if height < 1 {
		return nil, page
	}
	low, high := height-1, height-2
	if lean == 0 || lean == 2 && height%2 == 0 {
		low, high = high, low
	}
	left, page := thin(low, page, lean)
	s := stretch{page + 1, page + 3}
	right, page := thin(high, page+4, lean)
	return made(left, s, right), page
}

// P18.5: trees of all heights, as thin as they can be, joined with one another.
func TestThin(t *testing.T) {
	for low := range 11 {
		for high := range 11 {
			for leans := range 9 {
				ahead, page := thin(low, 1, leans%3)
				behind, _ := thin(high, page+10, leans/3)
				_, l := checked(t, ahead)
				_, m := checked(t, behind)
				if _, all := checked(t, joined(ahead, stretch{page + 2, page + 7}, behind)); len(all) != len(l)+1+len(m) {
					t.Fatalf("of %d and %d joined are %d", len(l), len(m), len(all))
				}
				if _, all := checked(t, together(ahead, behind)); len(all) != len(l)+len(m) {
					t.Fatalf("of %d and %d together are %d", len(l), len(m), len(all))
				}
			}
		}
	}
}

// P18.5: each stretch of a tree that is as thin as it can be is taken out, and one is put into each gap.
func TestThinChanged(t *testing.T) {
	for height := range 11 {
		for lean := range 3 {
			root, last := thin(height, 1, lean)
			for page := 1; page < last; page++ {
				x := &Tree{root: root}
				if page%4 == 0 {
					x.Put(page, page+1)
				} else {
					x.Cut(page, page+1)
				}
				whole(t, x)
				x = &Tree{root: root}
				x.Cut(page, min(page+3*(page%50), api.Pages))
				whole(t, x)
			}
		}
	}
}

// P18.5: trees of all heights, joined with one another, and parted again at each page.
func TestJoined(t *testing.T) {
	for low := range 70 {
		for high := range 70 {
			ahead, behind := New(), New()
			for i := range low {
				ahead.Put(1+10*i, 5+10*i)
			}
			for i := range high {
				behind.Put(2001+10*i, 2005+10*i)
			}
			one := joined(ahead.root, stretch{1500, 1600}, behind.root)
			if _, l := checked(t, one); len(l) != low+1+high {
				t.Fatalf("of %d and %d joined are %d", low, high, len(l))
			}
			if _, l := checked(t, together(ahead.root, behind.root)); len(l) != low+high {
				t.Fatalf("of %d and %d together are %d", low, high, len(l))
			}
		}
	}
	x := New()
	for i := range 300 {
		x.Put(1+10*i, 8+10*i)
	}
	for page := range 3002 {
		ahead, behind := x.root.parted(page)
		_, l := checked(t, ahead)
		_, m := checked(t, behind)
		if len(l) > 0 && l[len(l)-1].to > page || len(m) > 0 && m[0].from < page {
			t.Fatalf("parted at %d: %v and %v", page, l, m)
		}
	}
	whole(t, x)
}
