package sorter

// heap is things of which the least, by its order, stands first.
type heap[T any] struct {
	l    []T
	less func(a, b T) bool
}

func (h *heap[T]) push(x T) {
	h.l = append(h.l, x)
	for i := len(h.l) - 1; i > 0; {
		up := (i - 1) / 2
		if !h.less(h.l[i], h.l[up]) {
			break
		}
		h.l[i], h.l[up] = h.l[up], h.l[i]
		i = up
	}
}

// sink puts the first thing where it belongs, when it became a greater one.
func (h *heap[T]) sink() {
	for i := 0; ; {
		least := i
		for kid := 2*i + 1; kid <= 2*i+2 && kid < len(h.l); kid++ {
			if h.less(h.l[kid], h.l[least]) {
				least = kid
			}
		}
		if least == i {
			return
		}
		h.l[i], h.l[least] = h.l[least], h.l[i]
		i = least
	}
}

// pop takes the first thing away.
func (h *heap[T]) pop() {
	last := len(h.l) - 1
	h.l[0] = h.l[last]
	h.l = h.l[:last]
	h.sink()
}
