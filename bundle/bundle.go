// Package bundle is what a run does with all of its vectors at once.
package bundle

import (
	"strings"

	"wattle/api"
	"wattle/vector"
)

// Close gives the blocks of all vectors back (of those that are there, and not closed): the first error.
func Close(l ...*vector.Vector) api.Errno {
	first := api.OK
	for _, v := range l {
		if v == nil {
			continue
		}
		if e := v.Close(); e != api.OK && e != api.ErrDone && first == api.OK {
			first = e
		}
	}
	return first
}

// Save is all numbers of all vectors.
func Save(l ...*vector.Vector) (string, api.Errno) {
	var b strings.Builder
	for _, v := range l {
		text, e := v.Save()
		if e != api.OK {
			return "", e
		}
		b.WriteString(text)
	}
	return b.String(), api.OK
}

// Load makes the vectors what Save told, all of them or none.
func Load(text string, l ...*vector.Vector) api.Errno {
	bytes := 0
	for _, v := range l {
		bytes += v.Len() * v.Width()
	}
	if len(text) != bytes {
		return api.ErrForm
	}
	if _, e := Save(l...); e != api.OK { // what can't be read can't be written: it is asked ahead of the first change
		return e
	}
	for _, v := range l {
		n := v.Len() * v.Width()
		if e := v.Load(text[:n]); e != api.OK {
			return e
		}
		text = text[n:]
	}
	return api.OK
}
