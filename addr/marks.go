package addr

import "strings"

// mark is a set of places at which a byte may stand.
type mark uint8

const (
	inAtom      mark = 1 << iota // in an atom
	inQuotes                     // between quotes, for itself
	behindSlash                  // between quotes, behind a backslash
	inLabel                      // in a label
	atEdge                       // as the first or the last one of a label
)

const atomSigns = "!#$%&'*+-/=?^_`{|}~"

// marks ends at 128, because the bytes above that stand nowhere.
var marks [128]mark

func init() {
	for c := range marks {
		marks[c] = marksOf(byte(c))
	}
}

func marksOf(c byte) mark {
	var m mark
	if isLetter(c) || '0' <= c && c <= '9' {
		m |= inAtom | inLabel | atEdge
	}
	if strings.IndexByte(atomSigns, c) >= 0 {
		m |= inAtom
	}
	if c == '-' {
		m |= inLabel
	}
	if ' ' <= c && c <= '~' {
		m |= behindSlash
		if c != '"' && c != '\\' {
			m |= inQuotes
		}
	}
	return m
}

func isLetter(c byte) bool {
	return 'A' <= c && c <= 'Z' || 'a' <= c && c <= 'z'
}

func has(c byte, m mark) bool {
	return int(c) < len(marks) && marks[c]&m != 0
}
