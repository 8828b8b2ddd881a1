package catalog

import (
	"wattle/api"
	"wattle/num"
	"wattle/tree"
)

// Entry is what a name stands for.
type Entry struct {
	Kind uint8
	Name string
	X    api.Extent
	Data string
}

// Key is a kind and a name.
type Key struct {
	Kind uint8
	Name string
}

const extentBytes = 8 // of a value, ahead of the data

func (k Key) may() bool {
	return mayKind(k.Kind) && len(k.Name) >= 1 && len(k.Name) <= MaxName
}

func mayKind(kind uint8) bool { return kind >= 1 && kind <= MaxKind }

func (k Key) text() string { return string([]byte{k.Kind}) + k.Name }

func (x Entry) key() Key { return Key{x.Kind, x.Name} }

// value is what stands in the tree by an entry's key.
func (x Entry) value() string {
	return num.Text(uint64(x.X.Start), 4) + num.Text(uint64(x.X.Len), 4) + x.Data
}

// entryOf is the entry that stands in the tree so.
func entryOf(x tree.Entry) (Entry, bool) {
	if len(x.Key) < 1 || len(x.Val) < extentBytes || len(x.Val) > extentBytes+MaxData {
		return Entry{}, false
	}
	e := Entry{Kind: x.Key[0], Name: x.Key[1:], Data: x.Val[extentBytes:]}
	e.X = api.Extent{Start: int(num.Of(x.Val[:4])), Len: int(num.Of(x.Val[4:extentBytes]))}
	return e, e.key().may()
}
