package disk

import "strings"

// file is one, whatever its name.
type file struct {
	bytes strings.Builder
	safe  int // how many of them, from the first one on
}

// crash loses the bytes that are not safe, but for the first tail of them.
func (f *file) crash(tail int) {
	lost := f.bytes.Len() - f.safe
	kept := f.bytes.String()[:f.safe+min(max(tail, 0), lost)]
	*f = file{safe: len(kept)}
	f.bytes.WriteString(kept)
}
