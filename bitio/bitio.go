// Package bitio is layer 1: rows of bits, written and read in numbers of any width.
package bitio

import "wattle/api"

// MaxBits is how many bits a writer takes.
const MaxBits = 1 << 27

// Writer takes bits.
type Writer struct {
	buf  []byte
	bits int
}

// New makes a writer without bits.
func New() *Writer { return &Writer{} }

// Bit puts a bit.
func (w *Writer) Bit(b bool) api.Errno {
	if w == nil {
		return api.ErrNil
	}
	if w.bits >= MaxBits {
		return api.ErrFull
	}
	if b {
		w.put(1, 1)
	} else {
		w.put(0, 1)
	}
	return api.OK
}

// Put puts a number in n bits.
func (w *Writer) Put(v uint64, n int) api.Errno {
	switch {
	case w == nil:
		return api.ErrNil
	case n < 0 || n > 64 || !fits(v, n):
		return api.ErrArg
	case n > MaxBits-w.bits:
		return api.ErrFull
	}
	w.put(v, n)
	return api.OK
}

// Add puts the first n bits of a text.
func (w *Writer) Add(text string, n int) api.Errno {
	switch {
	case w == nil:
		return api.ErrNil
	case n < 0 || n > 8*len(text):
		return api.ErrArg
	case n > MaxBits-w.bits:
		return api.ErrFull
	}
	for i := range n / 8 {
		w.put(uint64(text[i]), 8)
	}
	if rest := n % 8; rest > 0 {
		w.put(uint64(text[n/8]>>(8-rest)), rest)
	}
	return api.OK
}

// Len is how many bits there are.
func (w *Writer) Len() int {
	if w == nil {
		return 0
	}
	return w.bits
}

// Text is all bits as a text, the last byte filled with bits 0.
func (w *Writer) Text() (string, api.Errno) {
	if w == nil {
		return "", api.ErrNil
	}
	return string(w.buf), api.OK
}

// put writes a number of n bits, a byte's share at a time.
func (w *Writer) put(v uint64, n int) {
	for n > 0 {
		used := w.bits % 8
		if used == 0 {
			w.buf = append(w.buf, 0)
		}
		k := min(8-used, n)
		part := byte(v>>(n-k)) & (1<<k - 1)
		w.buf[len(w.buf)-1] |= part << (8 - used - k)
		w.bits += k
		n -= k
	}
}

func fits(v uint64, n int) bool { return n >= 64 || v>>n == 0 }

// Reader gives bits.
type Reader struct {
	text string
	at   int
}

// Open makes a reader at the first bit of a text.
func Open(text string) *Reader { return &Reader{text: text} }

// Bit takes a bit.
func (r *Reader) Bit() (bool, api.Errno) {
	v, e := r.Take(1)
	return v == 1, e
}

// Take takes a number of n bits.
func (r *Reader) Take(n int) (uint64, api.Errno) {
	switch {
	case r == nil:
		return 0, api.ErrNil
	case n < 0 || n > 64:
		return 0, api.ErrArg
	case n > r.Left():
		return 0, api.ErrForm
	}
	var v uint64
	r.over(n, func(part byte, k int) { v = v<<k | uint64(part) })
	return v, api.OK
}

// over goes over the bytes in which the next n bits stand, and hands on of each the k bits that are among them.
func (r *Reader) over(n int, share func(part byte, k int)) {
	for n > 0 {
		used := r.at % 8
		k := min(8-used, n)
		share(r.text[r.at/8]<<used>>(8-k), k)
		r.at += k
		n -= k
	}
}

// At is the place of the next bit.
func (r *Reader) At() int {
	if r == nil {
		return 0
	}
	return r.at
}

// Seek goes to a place.
func (r *Reader) Seek(at int) api.Errno {
	if r == nil {
		return api.ErrNil
	}
	if at < 0 || at > 8*len(r.text) {
		return api.ErrArg
	}
	r.at = at
	return api.OK
}

// Left is how many bits are left.
func (r *Reader) Left() int {
	if r == nil {
		return 0
	}
	return 8*len(r.text) - r.at
}

// Pack is numbers of n bits each, as a text.
func Pack(l []uint64, n int) (string, api.Errno) {
	if n < 1 || n > 64 || len(l) > MaxBits/n {
		return "", api.ErrArg
	}
	w := New()
	for _, v := range l {
		if e := w.Put(v, n); e != api.OK {
			return "", e
		}
	}
	return w.Text()
}

// Unpack is the count numbers of n bits whose Pack a text is.
func Unpack(s string, n, count int) ([]uint64, api.Errno) {
	if n < 1 || n > 64 || count < 0 {
		return nil, api.ErrArg
	}
	if count > MaxBits/n || len(s) != (count*n+7)/8 {
		return nil, api.ErrForm
	}
	r := Open(s)
	l := make([]uint64, count)
	for i := range l {
		l[i], _ = r.Take(n)
	}
	if rest, _ := r.Take(r.Left()); rest != 0 {
		return nil, api.ErrForm
	}
	return l, api.OK
}
