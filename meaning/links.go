package meaning

// link is the last of the values that were matched with patterns on the way to a
// place in the program, and leads to those before it. A place has as many of them
// each time that it is come to: so a name is known by the depth of a link.
type link struct {
	value     value
	next, far *link // far is further away: so each depth is found in few turns
	depth     int
}

// newLink is the link of depth 0, which has no value.
func newLink() *link {
	l := &link{}
	l.next, l.far = l, l
	return l
}

// with is a new link on top. Its far one goes over twice as much as those of the
// two links that it goes over, where these two are alike.
func (l *link) with(v value) *link {
	far := l
	if l.depth-l.far.depth == l.far.depth-l.far.far.depth {
		far = l.far.far
	}
	return &link{v, l, far, l.depth + 1}
}

// at is the link of a depth.
func (l *link) at(depth int) *link {
	for l.depth > depth {
		if l.far.depth >= depth {
			l = l.far
		} else {
			l = l.next
		}
	}
	return l
}
