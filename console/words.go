package console

import "strings"

const (
	blank    = " "
	nothing  = "-" // the word of a text without bytes
	hexes    = "0123456789abcdef"
	most     = 15 // digits of a number
	firstOut = 0x21
	lastOut  = 0x7E
)

// words are a line's, taken one by one; once one is not what it is taken for, they are bad.
type words struct {
	l   []string
	bad bool
}

// next is the next word.
func (w *words) next() string {
	if len(w.l) == 0 {
		w.bad = true
		return ""
	}
	s := w.l[0]
	w.l = w.l[1:]
	return s
}

// whole says whether all words were taken, each for what it is.
func (w *words) whole() bool { return !w.bad && len(w.l) == 0 }

// number takes a number.
func (w *words) number() int {
	s := w.next()
	digits, minus := strings.CutPrefix(s, "-")
	v := 0
	digit := func(c byte) bool {
		v = 10*v + int(c-'0')
		return c >= '0' && c <= '9'
	}
	ok := digits != "" && len(digits) <= most && (digits[0] != '0' || s == "0")
	for i := 0; ok && i < len(digits); i++ {
		ok = digit(digits[i])
	}
	if !ok {
		w.bad = true
		return 0
	}
	if minus {
		return -v
	}
	return v
}

// numbers takes all words that are left as numbers.
func (w *words) numbers() []int {
	var l []int
	for len(w.l) > 0 {
		l = append(l, w.number())
	}
	return l
}

// text takes a text.
func (w *words) text() string {
	s := w.next()
	if s == "" {
		w.bad = true
	}
	if s == nothing {
		return ""
	}
	var b strings.Builder
	for i := 0; i < len(s); i++ {
		if s[i] != '%' {
			b.WriteByte(s[i])
			continue
		}
		v := byte(0)
		digit := func(at int) {
			d := -1
			if at < len(s) {
				d = strings.IndexByte(hexes, s[at])
			}
			w.bad = w.bad || d < 0
			v = v<<4 | byte(max(d, 0))
		}
		digit(i + 1)
		digit(i + 2)
		b.WriteByte(v)
		i += 2
	}
	if w.bad {
		return ""
	}
	return b.String()
}

// shown is the word of a text.
func shown(s string) string {
	if s == "" {
		return nothing
	}
	var b strings.Builder
	for i := range len(s) {
		c := s[i]
		if c < firstOut || c > lastOut || c == '%' || s == nothing {
			b.WriteString("%" + string([]byte{hexes[c>>4], hexes[c&15]}))
		} else {
			b.WriteByte(c)
		}
	}
	return b.String()
}
