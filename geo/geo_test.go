package geo_test

import (
	"math"
	"slices"
	"testing"

	"pantile/api"
	"pantile/geo"
)

// Numbers of all sorts: around 0, the ends of what there is, and of what a number can be.
var sorts = []int{
	math.MinInt, math.MinInt + 1, math.MinInt + 255, math.MinInt / 2, -1 << 32, -4097, -4096, -256, -65, -64, -8, -1,
	0, 1, 2, 7, 8, 9, 63, 64, 65, 255, 256, 4032, 4088, 4095, 4096, 4097, 8192,
	1 << 32, math.MaxInt / 2, math.MaxInt - 4095, math.MaxInt - 255, math.MaxInt - 1, math.MaxInt,
}

// The orders, and such as are none.
var (
	goodOrders = []int{0, 1, 2, 3, 4, 5, 6, 7, 8}
	badOrders  = []int{math.MinInt, math.MinInt + 3, -64, -9, -3, -1, 9, 12, 62, 63, 64, 65, 1 << 32, math.MaxInt - 3, math.MaxInt}
	allOrders  = slices.Concat(goodOrders, badOrders)
)

// size tells how many pages a block has, by doubling.
func size(order int) int {
	n := 1
	for range order {
		n *= 2
	}
	return n
}

// The chapter's examples.
func TestExamples(t *testing.T) {
	if d, err := geo.Digits(83); !slices.Equal(d, []int{0, 1, 2, 3}) || err != api.OK {
		t.Errorf("Digits(83): %v, %d", d, err)
	}
	if p := geo.Down(83, 3); p != 80 {
		t.Errorf("Down(83, 3): %d", p)
	}
	want := []api.Block{{Frame: 6}, {Frame: 7}, {Frame: 8, Order: 3}, {Frame: 16, Order: 3}, {Frame: 24}, {Frame: 25}}
	if l := geo.Cut(6, 20, 3); !slices.Equal(l, want) {
		t.Errorf("Cut(6, 20, 3): %v", l)
	}
}

// P3.1 and P3.5: all pages have numbers, counted as a clock's hands go, and the numbers their page.
func TestEveryPage(t *testing.T) {
	page := 0
	for a := range 8 {
		for b := range 8 {
			for c := range 8 {
				for d := range 8 {
					want := []int{a, b, c, d}
					if got, err := geo.Digits(page); !slices.Equal(got, want) || err != api.OK {
						t.Errorf("Digits(%d): %v, %d; want %v", page, got, err, want)
					}
					if got, err := geo.Page(want...); got != page || err != api.OK {
						t.Errorf("Page(%v): %d, %d; want %d", want, got, err, page)
					}
					if got, err := geo.Page(a, b, c, d); got != page || err != api.OK {
						t.Errorf("Page(%d, %d, %d, %d): %d, %d; want %d", a, b, c, d, got, err, page)
					}
					page++
				}
			}
		}
	}
	if page != api.Pages {
		t.Errorf("%d pages", page)
	}
}

// P3.1: Digits of what is no page.
func TestDigitsErrors(t *testing.T) {
	for _, page := range sorts {
		if page >= 0 && page <= 4095 {
			continue
		}
		if d, err := geo.Digits(page); len(d) != 0 || err != api.ErrRange {
			t.Errorf("Digits(%d): %v, %d; want none, ErrRange", page, d, err)
		}
	}
}

// P3.1: Page of too few and of too many numbers, be they right or not.
func TestPageCount(t *testing.T) {
	for n := range 70 {
		if n == 4 {
			continue
		}
		for _, digit := range []int{0, 1, 7, 8, -1} {
			l := make([]int, n)
			for i := range l {
				l[i] = digit
			}
			if p, err := geo.Page(l...); p != 0 || err != api.ErrArg {
				t.Errorf("Page of %d times %d: %d, %d; want 0, ErrArg", n, digit, p, err)
			}
		}
	}
	if p, err := geo.Page(); p != 0 || err != api.ErrArg {
		t.Errorf("Page(): %d, %d; want 0, ErrArg", p, err)
	}
}

// P3.1: Page of four numbers, one of which is wrong, at each place.
func TestPageErrors(t *testing.T) {
	for _, wrong := range sorts {
		if wrong >= 0 && wrong <= 7 {
			continue
		}
		for place := range 4 {
			for _, other := range []int{0, 1, 7} {
				l := []int{other, other, other, other}
				l[place] = wrong
				if p, err := geo.Page(l...); p != 0 || err != api.ErrArg {
					t.Errorf("Page(%v): %d, %d; want 0, ErrArg", l, p, err)
				}
			}
		}
		if p, err := geo.Page(wrong, wrong, wrong, wrong); p != 0 || err != api.ErrArg {
			t.Errorf("Page of 4 times %d: %d, %d; want 0, ErrArg", wrong, p, err)
		}
	}
	// What each digit is short of, or beyond, must not come out of the next one.
	for _, l := range [][]int{{0, 0, 0, 8}, {0, 0, 8, 0}, {0, 8, 0, 0}, {8, 0, 0, 0}, {0, 0, 1, -1}, {0, 1, -1, 0}, {1, -1, 0, 0}, {-1, 7, 7, 7}} {
		if p, err := geo.Page(l...); p != 0 || err != api.ErrArg {
			t.Errorf("Page(%v): %d, %d; want 0, ErrArg", l, p, err)
		}
	}
}

// R3: numbers that are handed in are not changed, their spare room neither; those that are answered are new.
func TestDigitsApart(t *testing.T) {
	room := []int{9, 0, 1, 2, 3, 9, 9}
	if p, err := geo.Page(room[1:5]...); p != 83 || err != api.OK {
		t.Errorf("Page: %d, %d", p, err)
	}
	if !slices.Equal(room, []int{9, 0, 1, 2, 3, 9, 9}) {
		t.Errorf("Page has changed its numbers: %v", room)
	}
	one, _ := geo.Digits(83)
	two, _ := geo.Digits(83)
	for i := range one[:cap(one)] {
		one[:cap(one)][i] = 5
	}
	if again, _ := geo.Digits(83); !slices.Equal(two, []int{0, 1, 2, 3}) || !slices.Equal(again, two) {
		t.Errorf("Digits has told %v and %v behind a change of another answer", two, again)
	}
}

// wantDown looks for the multiple one by one, by dividing alone; an even page is its own answer.
func wantDown(page, order int) int {
	for page%size(order) != 0 {
		page--
	}
	return page
}

// checkDown: P3.2 of a page with each order, and with such as are none.
func checkDown(t *testing.T, page int) {
	t.Helper()
	for _, order := range goodOrders {
		want := wantDown(page, order)
		if got := geo.Down(page, order); got != want {
			t.Errorf("Down(%d, %d): %d, want %d", page, order, got, want)
		}
		if got := geo.Even(page, order); got != (want == page) {
			t.Errorf("Even(%d, %d): %v", page, order, got)
		}
	}
	for _, order := range badOrders {
		if got := geo.Down(page, order); got != page {
			t.Errorf("Down(%d, %d): %d, want the page", page, order, got)
		}
		if geo.Even(page, order) {
			t.Errorf("Even(%d, %d): true", page, order)
		}
	}
}

// P3.2 of all pages, of as many to both sides, and at both ends of what a number can be.
func TestDown(t *testing.T) {
	for page := -4400; page <= 8400; page++ {
		checkDown(t, page)
	}
	for i := range 600 {
		// The least number is a multiple of all blocks: none is looked for below it.
		checkDown(t, math.MinInt+i)
		checkDown(t, math.MaxInt-i)
	}
}

// P3.2, written out.
func TestDownWritten(t *testing.T) {
	for _, x := range []struct {
		page, order, down int
		even              bool
	}{
		{0, 0, 0, true},
		{0, 8, 0, true},
		{5, 0, 5, true},
		{7, 3, 0, false},
		{8, 3, 8, true},
		{4095, 8, 3840, false},
		{4095, 1, 4094, false},
		{-1, 0, -1, true},
		{-1, 1, -2, false},
		{-1, 8, -256, false},
		{-8, 3, -8, true},
		{-9, 3, -16, false},
		{math.MinInt, 8, math.MinInt, true},
		{math.MinInt + 1, 8, math.MinInt, false},
		{math.MaxInt, 0, math.MaxInt, true},
		{math.MaxInt, 8, math.MaxInt - 255, false},
		{math.MaxInt - 255, 8, math.MaxInt - 255, true},
		{83, -1, 83, false},
		{83, 9, 83, false},
		{512, 9, 512, false},
		{0, -1, 0, false},
		{0, 64, 0, false},
	} {
		if got := geo.Down(x.page, x.order); got != x.down {
			t.Errorf("Down(%d, %d): %d, want %d", x.page, x.order, got, x.down)
		}
		if got := geo.Even(x.page, x.order); got != x.even {
			t.Errorf("Even(%d, %d): %v", x.page, x.order, got)
		}
	}
}

// wantRight says the chapter's words of stretches once more, error by error.
func wantRight(at, n, order int) api.Errno {
	switch {
	case order < 0 || order > 8:
		return api.ErrArg
	case n < 1:
		return api.ErrArg
	case at%size(order) != 0 || n%size(order) != 0:
		return api.ErrArg
	case at < 1 || at > 4095 || n > 4095:
		return api.ErrRange
	case at+n-1 > 4095:
		return api.ErrRange
	}
	return api.OK
}

func checkRight(t *testing.T, at, n, order int) {
	t.Helper()
	want := wantRight(at, n, order)
	if got := geo.Right(at, n, order); got != want {
		t.Errorf("Right(%d, %d, %d): %d, want %d", at, n, order, got, want)
	}
}

// P3.3 of numbers of all sorts.
func TestRight(t *testing.T) {
	for _, at := range sorts {
		for _, n := range sorts {
			for _, order := range allOrders {
				checkRight(t, at, n, order)
			}
		}
	}
}

// P3.3 at both ends of a space, of every stretch that begins or ends near one of them.
func TestRightAtEnds(t *testing.T) {
	for _, order := range goodOrders {
		for at := -20; at < 600; at++ {
			for n := -2; n < 20; n++ {
				checkRight(t, at, n, order)
			}
		}
		for at := 3500; at < 4200; at++ {
			for n := 4080 - at; n < 4110-at; n++ {
				checkRight(t, at, n, order)
			}
		}
		block := size(order)
		for at := -block; at <= 4096+block; at += block {
			for n := 0; n <= 4096+block; n += block * 8 {
				checkRight(t, at, n, order)
			}
			checkRight(t, at, 4096-at, order)
			checkRight(t, at, 4096-at+block, order)
		}
	}
}

// P3.3, written out: the error that comes first.
func TestRightWritten(t *testing.T) {
	for _, x := range []struct {
		at, n, order int
		want         api.Errno
	}{
		{1, 1, 0, api.OK},
		{1, 4095, 0, api.OK},
		{4095, 1, 0, api.OK},
		{8, 16, 3, api.OK},
		{8, 4088, 3, api.OK},
		{64, 4032, 6, api.OK},
		{256, 3840, 8, api.OK},
		{3840, 256, 8, api.OK},
		{8, 15, 3, api.ErrArg},
		{9, 16, 3, api.ErrArg},
		{8, 64, 6, api.ErrArg},
		{64, 8, 6, api.ErrArg},
		{8, 8, -1, api.ErrArg},
		{512, 512, 9, api.ErrArg},
		{1, 0, 0, api.ErrArg},
		{0, 0, 0, api.ErrArg},
		{8, -8, 3, api.ErrArg},
		{5000, 0, 0, api.ErrArg},
		{-1, -1, 0, api.ErrArg},
		{0, 1, 3, api.ErrArg},
		{4096, 1, 3, api.ErrArg},
		{-1, 8, 3, api.ErrArg},
		{0, 1, 9, api.ErrArg},
		{1, math.MaxInt, 3, api.ErrArg},
		{0, 1, 0, api.ErrRange},
		{0, 8, 3, api.ErrRange},
		{0, 256, 8, api.ErrRange},
		{-8, 8, 3, api.ErrRange},
		{-1, 5, 0, api.ErrRange},
		{4096, 1, 0, api.ErrRange},
		{4095, 2, 0, api.ErrRange},
		{1, 4096, 0, api.ErrRange},
		{8, 4096, 3, api.ErrRange},
		{3840, 512, 8, api.ErrRange},
		{1, math.MaxInt, 0, api.ErrRange},
		{math.MaxInt, 1, 0, api.ErrRange},
		{math.MaxInt, math.MaxInt, 0, api.ErrRange},
		{math.MinInt, 1, 0, api.ErrRange},
		{math.MinInt, math.MaxInt, 0, api.ErrRange},
		{math.MinInt, 256, 8, api.ErrRange},
		{math.MaxInt - 255, 256, 8, api.ErrRange},
		{math.MinInt, math.MinInt, 0, api.ErrArg},
		{8, 8, math.MaxInt, api.ErrArg},
		{8, 8, math.MinInt, api.ErrArg},
	} {
		if got := geo.Right(x.at, x.n, x.order); got != x.want {
			t.Errorf("Right(%d, %d, %d): %d, want %d", x.at, x.n, x.order, got, x.want)
		}
	}
}

// wantCut takes blocks from the left, each the greatest of those that may begin there, by trying all.
func wantCut(at, n, order int) []api.Block {
	var l []api.Block
	for end := at + n; at < end; {
		best := 0
		for _, o := range []int{3, 6} {
			if o <= order && at%size(o) == 0 && at+size(o) <= end {
				best = o
			}
		}
		l = append(l, api.Block{Frame: at, Order: best})
		at += size(best)
	}
	return l
}

// checkCut: P3.4 and P3.6 of a stretch, which is one, with each order.
func checkCut(t *testing.T, at, n int) {
	t.Helper()
	for _, order := range goodOrders {
		got, want := geo.Cut(at, n, order), wantCut(at, n, order)
		if !slices.Equal(got, want) {
			t.Errorf("Cut(%d, %d, %d): %v, want %v", at, n, order, got, want)
		}
		checkCovered(t, at, n, order, got)
	}
}

// checkCovered says P3.6 once more, of a cut by itself.
func checkCovered(t *testing.T, at, n, order int, l []api.Block) {
	t.Helper()
	next := at
	for i, b := range l {
		if b.Frame != next {
			t.Fatalf("Cut(%d, %d, %d): %v is not behind the one ahead", at, n, order, b)
		}
		if b.Order > order || b.Order != 0 && b.Order != 3 && b.Order != 6 {
			t.Fatalf("Cut(%d, %d, %d): %v has an order that may not be", at, n, order, b)
		}
		if b.Frame%size(b.Order) != 0 {
			t.Fatalf("Cut(%d, %d, %d): %v is not even", at, n, order, b)
		}
		if b.Order+3 <= order && b.Order < 6 && oneOfNext(l[i:]) {
			t.Fatalf("Cut(%d, %d, %d): from %v on eight could be one", at, n, order, b)
		}
		next += size(b.Order)
	}
	if next != at+n {
		t.Fatalf("Cut(%d, %d, %d): ends at %d", at, n, order, next)
	}
}

// oneOfNext tells whether a list begins with eight blocks of one order that could be one block of the next one.
func oneOfNext(l []api.Block) bool {
	if len(l) < 8 || l[0].Frame%size(l[0].Order+3) != 0 {
		return false
	}
	for _, b := range l[1:8] {
		if b.Order != l[0].Order {
			return false
		}
	}
	return true
}

// P3.4 and P3.6 of all short stretches at the beginning of a space.
func TestCutShort(t *testing.T) {
	for at := 1; at <= 140; at++ {
		for n := 1; n <= 210; n++ {
			checkCut(t, at, n)
		}
	}
}

// P3.4 and P3.6 up to the last page, and of stretches all over a space.
func TestCutLong(t *testing.T) {
	for at := 1; at <= 4095; at++ {
		if at >= 3800 || at%61 == 1 {
			checkCut(t, at, 4096-at)
		}
	}
	for at := 1; at <= 4095; at += 97 {
		for n := 1; at+n <= 4096; n += 101 {
			checkCut(t, at, n)
		}
	}
	for _, x := range [][2]int{{1, 4095}, {1, 4094}, {8, 4088}, {64, 4032}, {64, 64}, {63, 66}, {512, 512}, {4095, 1}, {4032, 64}, {4031, 65}, {4088, 8}} {
		checkCut(t, x[0], x[1])
	}
}

// P3.4, written out: no order between 3 and 6, and none above 6.
func TestCutWritten(t *testing.T) {
	for _, x := range []struct {
		at, n, order int
		want         []api.Block
	}{
		{1, 1, 0, []api.Block{{Frame: 1}}},
		{8, 3, 0, []api.Block{{Frame: 8}, {Frame: 9}, {Frame: 10}}},
		{8, 8, 3, []api.Block{{Frame: 8, Order: 3}}},
		{8, 16, 4, []api.Block{{Frame: 8, Order: 3}, {Frame: 16, Order: 3}}},
		{32, 32, 5, []api.Block{{Frame: 32, Order: 3}, {Frame: 40, Order: 3}, {Frame: 48, Order: 3}, {Frame: 56, Order: 3}}},
		{2, 4, 2, []api.Block{{Frame: 2}, {Frame: 3}, {Frame: 4}, {Frame: 5}}},
		{64, 64, 6, []api.Block{{Frame: 64, Order: 6}}},
		{64, 128, 7, []api.Block{{Frame: 64, Order: 6}, {Frame: 128, Order: 6}}},
		{256, 256, 8, []api.Block{{Frame: 256, Order: 6}, {Frame: 320, Order: 6}, {Frame: 384, Order: 6}, {Frame: 448, Order: 6}}},
		{55, 82, 8, []api.Block{{Frame: 55}, {Frame: 56, Order: 3}, {Frame: 64, Order: 6}, {Frame: 128, Order: 3}, {Frame: 136}}},
		{4031, 65, 8, []api.Block{{Frame: 4031}, {Frame: 4032, Order: 6}}},
		{4032, 63, 6, []api.Block{
			{Frame: 4032, Order: 3}, {Frame: 4040, Order: 3}, {Frame: 4048, Order: 3}, {Frame: 4056, Order: 3},
			{Frame: 4064, Order: 3}, {Frame: 4072, Order: 3}, {Frame: 4080, Order: 3},
			{Frame: 4088}, {Frame: 4089}, {Frame: 4090}, {Frame: 4091}, {Frame: 4092}, {Frame: 4093}, {Frame: 4094},
		}},
	} {
		if got := geo.Cut(x.at, x.n, x.order); !slices.Equal(got, x.want) {
			t.Errorf("Cut(%d, %d, %d): %v, want %v", x.at, x.n, x.order, got, x.want)
		}
	}
}

// P3.4: no cut of what is no stretch, or with an order that is none.
func TestCutNone(t *testing.T) {
	for _, at := range sorts {
		for _, n := range sorts {
			for _, order := range allOrders {
				if wantRight(at, n, 0) == api.OK && order >= 0 && order <= 8 {
					checkCut(t, at, n)
				} else if l := geo.Cut(at, n, order); len(l) != 0 {
					t.Errorf("Cut(%d, %d, %d): %v, want none", at, n, order, l)
				}
			}
		}
	}
	for _, x := range [][3]int{
		{0, 1, 0}, {0, 64, 6}, {1, 0, 0}, {1, -1, 0}, {4095, 2, 0}, {4096, 1, 0}, {1, 4096, 3}, {-1, 2, 3},
		{8, 8, -1}, {8, 8, -3}, {8, 8, 9}, {8, 8, 12}, {1, math.MaxInt, 3}, {math.MaxInt, 1, 3}, {math.MinInt, math.MaxInt, 0},
	} {
		if l := geo.Cut(x[0], x[1], x[2]); len(l) != 0 {
			t.Errorf("Cut(%d, %d, %d): %v, want none", x[0], x[1], x[2], l)
		}
	}
}

// R3: a cut is new memory.
func TestCutApart(t *testing.T) {
	want := wantCut(6, 140, 6)
	one, two := geo.Cut(6, 140, 6), geo.Cut(6, 140, 6)
	for i := range one[:cap(one)] {
		one[:cap(one)][i] = api.Block{Frame: 1000, Order: 8}
	}
	if again := geo.Cut(6, 140, 6); !slices.Equal(two, want) || !slices.Equal(again, want) {
		t.Errorf("Cut has told %v and %v behind a change of another answer", two, again)
	}
}
