package arc

// node is a key in a list, between a newer one and an older one.
type node[K comparable] struct {
	key          K
	pins         int
	in           *list[K]
	newer, older *node[K]
}

// list is keys, the newest first; ends is a node of no key that closes it to a ring.
type list[K comparable] struct {
	ends node[K]
	n    int
}

func newList[K comparable]() *list[K] {
	l := &list[K]{}
	l.ends.newer, l.ends.older = &l.ends, &l.ends
	return l
}

// push makes a node that is in no list the newest one.
func (l *list[K]) push(x *node[K]) {
	x.in = l
	x.newer, x.older = &l.ends, l.ends.older
	x.older.newer = x
	l.ends.older = x
	l.n++
}

// leave takes a node out of its list.
func (x *node[K]) leave() {
	x.newer.older, x.older.newer = x.older, x.newer
	x.in.n--
	x.in = nil
}

// oldest is the oldest node that is not pinned, nil if there is none.
func (l *list[K]) oldest() *node[K] {
	for x := l.ends.newer; x != &l.ends; x = x.newer {
		if x.pins == 0 {
			return x
		}
	}
	return nil
}

func (l *list[K]) keys() []K {
	var keys []K
	for x := l.ends.older; x != &l.ends; x = x.older {
		keys = append(keys, x.key)
	}
	return keys
}
