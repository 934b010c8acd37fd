package tree

// mend.go: how nodes are hung and taken away, and how the tree stays a red-black one.

// hang puts a node, or none, right below another one. (What is above none tells nothing, and is never asked for.)
func (t *Tree) hang(up, side, place int) {
	t.nodes[up].down[side] = place
	t.nodes[place].up = up
}

// sideOf is the side of the one above it at which a node hangs.
func (t *Tree) sideOf(place int) int {
	if t.nodes[t.nodes[place].up].down[greater] == place {
		return greater
	}
	return lesser
}

// turn puts a node down to a side, and the one right below it at the other side up in its stead; the keys stay in order.
func (t *Tree) turn(place, side int) {
	riser := t.nodes[place].down[1-side]
	t.hang(t.nodes[place].up, t.sideOf(place), riser)
	t.hang(place, 1-side, t.nodes[riser].down[side])
	t.hang(riser, side, place)
}

// paint makes one node red, and another one black.
func (t *Tree) paint(red, black int) {
	t.nodes[red].red = true
	t.nodes[black].red = false
}

// mendRed mends what is wrong if a node that became red hangs below a red one, or is the root.
func (t *Tree) mendRed(place int) {
	up := t.nodes[place].up
	for t.nodes[up].red {
		top := t.nodes[up].up // there is one, as the root is black
		side := t.sideOf(up)
		other := t.nodes[top].down[1-side]
		if !t.nodes[other].red {
			t.mendRow(place, up, top, side)
			break
		}
		t.nodes[other].red = false
		t.paint(top, up)
		place, up = top, t.nodes[top].up
	}
	t.nodes[t.root()].red = false
}

// mendRow mends a red node below a red one, up, at that side of a black one, top, that has no red one at its other side: they come to stand below the middle one of the three.
func (t *Tree) mendRow(place, up, top, side int) {
	if t.sideOf(place) != side {
		t.turn(up, side)
		up = place
	}
	t.turn(top, 1-side)
	t.paint(top, up)
}

// unhang takes a node's key out of the tree; the place that is free then, which is the next key's, if two nodes were below the node: that key has come to stand in its stead.
func (t *Tree) unhang(place int) int {
	n := &t.nodes[place]
	if n.down[lesser] != none && n.down[greater] != none {
		place = t.least(n.down[greater])
		n.key, n.v = t.nodes[place].key, t.nodes[place].v
		n = &t.nodes[place]
	}
	below := n.down[lesser]
	if below == none {
		below = n.down[greater]
	}
	up, side := n.up, t.sideOf(place)
	t.hang(up, side, below)
	switch {
	case n.red: // no way has a black node less
	case t.nodes[below].red:
		t.nodes[below].red = false
	default:
		t.mendBlack(up, side)
	}
	return place
}

// mendBlack mends what is wrong if all ways down from a node, at that side, have one black node less than they had.
func (t *Tree) mendBlack(up, side int) {
	for up != none {
		other := t.nodes[up].down[1-side] // there is one, as the ways there have a black node more
		if t.nodes[other].red {
			t.turn(up, side)
			t.paint(up, other)
			other = t.nodes[up].down[1-side]
		}
		down := t.nodes[other].down
		if t.nodes[down[lesser]].red || t.nodes[down[greater]].red {
			t.lend(up, side, other)
			return
		}
		t.nodes[other].red = true
		if t.nodes[up].red {
			t.nodes[up].red = false
			return
		}
		up, side = t.nodes[up].up, t.sideOf(up)
	}
}

// lend gives the ways down from a node, at that side, a black node more, for which a red one is there below the other one right below it, which is black.
func (t *Tree) lend(up, side, other int) {
	far := t.nodes[other].down[1-side]
	if !t.nodes[far].red {
		near := t.nodes[other].down[side]
		t.turn(other, 1-side)
		other, far = near, other
	}
	t.turn(up, side)
	t.nodes[other].red = t.nodes[up].red
	t.nodes[up].red = false
	t.nodes[far].red = false
}

// fill takes a place that no node hangs at away: the last node moves there.
func (t *Tree) fill(gap int) {
	last := len(t.nodes) - 1
	if gap != last {
		n := t.nodes[last]
		t.hang(n.up, t.sideOf(last), gap)
		t.nodes[gap] = n
		t.hang(gap, lesser, n.down[lesser])
		t.hang(gap, greater, n.down[greater])
	}
	t.nodes = t.nodes[:last]
}
