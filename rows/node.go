package rows

import (
	"strings"
	"unicode/utf8"
)

// A node is one row of a tree whose two sides differ by at most one in height;
// nodes are never changed, only made anew.
type node struct {
	row    string
	left   *node
	right  *node
	height int
	all    sums
}

// sums is what rows come to.
type sums struct {
	rows  int
	bytes int
	runes int
}

func (a sums) plus(b sums) sums {
	return sums{a.rows + b.rows, a.bytes + b.bytes, a.runes + b.runes}
}

func (n *node) sum() sums {
	if n == nil {
		return sums{}
	}
	return n.all
}

func (n *node) tall() int {
	if n == nil {
		return 0
	}
	return n.height
}

// own is what the node's row alone comes to.
func (n *node) own() sums {
	return sums{1, len(n.row), utf8.RuneCountInString(n.row)}
}

func over(left *node, row string, right *node) *node {
	n := &node{row: row, left: left, right: right, height: 1 + max(left.tall(), right.tall())}
	n.all = left.sum().plus(n.own()).plus(right.sum())
	return n
}

// build makes a tree of copies of rows.
func build(l []string) *node {
	if len(l) == 0 {
		return nil
	}
	m := len(l) / 2
	return over(build(l[:m]), strings.Clone(l[m]), build(l[m+1:]))
}

func (n *node) walk(told func(row string)) {
	if n != nil {
		n.left.walk(told)
		told(n.row)
		n.right.walk(told)
	}
}

// find tells the i-th row's node (nil behind the last one) and what stands ahead of it.
func (n *node) find(i int) (ahead sums, at *node) {
	for n != nil {
		k := n.left.sum().rows
		if i == k {
			return ahead.plus(n.left.sum()), n
		}
		if i < k {
			n = n.left
		} else {
			ahead = ahead.plus(n.left.sum()).plus(n.own())
			i -= k + 1
			n = n.right
		}
	}
	return ahead, nil
}

// join makes one tree of two, whatever their heights, and a row between.
func join(left *node, row string, right *node) *node {
	switch {
	case left.tall() > right.tall()+1:
		return balance(left.left, left.row, join(left.right, row, right))
	case right.tall() > left.tall()+1:
		return balance(join(left, row, right.left), right.row, right.right)
	}
	return over(left, row, right)
}

// balance is over, also of sides that differ by two.
func balance(left *node, row string, right *node) *node {
	switch {
	case left.tall() > right.tall()+1:
		if left.left.tall() >= left.right.tall() {
			return over(left.left, left.row, over(left.right, row, right))
		}
		m := left.right
		return over(over(left.left, left.row, m.left), m.row, over(m.right, row, right))
	case right.tall() > left.tall()+1:
		if right.right.tall() >= right.left.tall() {
			return over(over(left, row, right.left), right.row, right.right)
		}
		m := right.left
		return over(over(left, row, m.left), m.row, over(m.right, right.row, right.right))
	}
	return over(left, row, right)
}

// split makes a tree of the first i rows and one of the others.
func split(n *node, i int) (head, tail *node) {
	if n == nil {
		return nil, nil
	}
	if k := n.left.sum().rows; i <= k {
		head, tail = split(n.left, i)
		return head, join(tail, n.row, n.right)
	} else {
		head, tail = split(n.right, i-k-1)
		return join(n.left, n.row, head), tail
	}
}

// link makes one tree of two.
func link(head, tail *node) *node {
	if tail == nil {
		return head
	}
	_, first := tail.find(0)
	_, rest := split(tail, 1)
	return join(head, first.row, rest)
}
