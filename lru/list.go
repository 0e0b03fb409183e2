package lru

// link is a place in a list, with the value that the list contains there.
type link struct {
	value         any
	before, after *link
}

// list is a list of values of any type. It is a ring: the root, which has no
// value of its own, is before the first link and after the last one.
type list struct{ root link }

// newList returns an empty list.
func newList() *list {
	l := &list{}
	l.root.before, l.root.after = &l.root, &l.root
	return l
}

// push adds a value as the first one and returns its link.
func (l *list) push(value any) *link {
	x := &link{value: value}
	l.lead(x)
	return x
}

// raise makes a link of the list the first one.
func (l *list) raise(x *link) {
	x.cut()
	l.lead(x)
}

// lead puts a link that is in no list before all others.
func (l *list) lead(x *link) {
	x.before, x.after = &l.root, l.root.after
	x.before.after, x.after.before = x, x
}

// cut takes a link out of its list.
func (x *link) cut() {
	x.before.after, x.after.before = x.after, x.before
}

// last returns the last link of a list that is not empty.
func (l *list) last() *link {
	return l.root.before
}

// each visits the links from the first one on.
func (l *list) each(visit func(*link)) {
	for x := l.root.after; x != &l.root; x = x.after {
		visit(x)
	}
}
