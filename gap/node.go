package gap

// stretch is the pages from one on, ahead of another.
type stretch struct{ from, to int }

// node is a stretch, with all that lies ahead of it to its left, and all that lies behind to its right. It is not changed, but made anew. A nil one is a tree without a stretch.
type node struct {
	stretch
	left, right *node
	height      int
	// Where the first of its tree's stretches begins, where the last one ends, and the greatest gap between both.
	first, last, gap int
}

// made makes a node; the heights of its sides differ by 1 at most.
func made(left *node, s stretch, right *node) *node {
	n := &node{stretch: s, left: left, right: right, first: s.from, last: s.to}
	if left != nil {
		n.first = left.first
	}
	if right != nil {
		n.last = right.last
	}
	n.height = 1 + max(left.tall(), right.tall())
	n.gap = max(left.room(n.first, s.from), right.room(s.to, n.last))
	return n
}

func (n *node) tall() int {
	if n == nil {
		return 0
	}
	return n.height
}

// room tells the greatest gap of the pages from one on, ahead of another, in which a tree's stretches lie, and no others.
func (n *node) room(from, to int) int {
	if n == nil {
		return to - from
	}
	return max(n.first-from, n.gap, to-n.last)
}

// meets tells the node nearest to the root that has one of the pages from first to last: where there is none, nil.
func (n *node) meets(first, last int) *node {
down:
	for n != nil {
		switch {
		case last < n.from:
			n = n.left
		case first >= n.to:
			n = n.right
		default:
			break down
		}
	}
	return n
}

// parted tells what a tree's stretches have ahead of a page, and what they have from it on.
func (n *node) parted(page int) (*node, *node) {
	switch {
	case n == nil:
		return nil, nil
	case page <= n.from:
		ahead, behind := n.left.parted(page)
		return ahead, joined(behind, n.stretch, n.right)
	case page >= n.to:
		ahead, behind := n.right.parted(page)
		return joined(n.left, n.stretch, ahead), behind
	}
	return joined(n.left, stretch{n.from, page}, nil), joined(nil, stretch{page, n.to}, n.right)
}

// together tells the tree of all stretches of two, of which one lies ahead of the other.
func together(ahead, behind *node) *node {
	if behind == nil {
		return ahead
	}
	s := behind.meets(behind.first, behind.first).stretch
	_, rest := behind.parted(s.to)
	return joined(ahead, s, rest)
}

// joined tells the tree of all stretches of two, with one between both, however their heights differ.
func joined(left *node, s stretch, right *node) *node {
	switch {
	case left.tall() > right.tall()+1:
		return level(left.left, left.stretch, joined(left.right, s, right))
	case right.tall() > left.tall()+1:
		return level(joined(left, s, right.left), right.stretch, right.right)
	}
	return made(left, s, right)
}

// level makes a node; the heights of the sides that it is handed differ by 2 at most.
func level(left *node, s stretch, right *node) *node {
	switch {
	case left.tall() > right.tall()+1:
		// What stands in the middle would be as deep on the other side, so where it is the higher one it becomes the root.
		if m := left.right; m.tall() > left.left.tall() {
			return made(made(left.left, left.stretch, m.left), m.stretch, made(m.right, s, right))
		}
		return made(left.left, left.stretch, made(left.right, s, right))
	case right.tall() > left.tall()+1:
		if m := right.left; m.tall() > right.right.tall() {
			return made(made(left, s, m.left), m.stretch, made(m.right, right.stretch, right.right))
		}
		return made(made(left, s, right.left), right.stretch, right.right)
	}
	return made(left, s, right)
}
