// Package ascii knows the letters A to Z, and no others.
package ascii

import "strings"

// Lower tells s, each A to Z as a to z, and every other byte as it is.
func Lower(s string) string {
	var b strings.Builder
	for i := range len(s) {
		sign := s[i]
		if 'A' <= sign && sign <= 'Z' {
			sign += 'a' - 'A'
		}
		b.WriteByte(sign)
	}
	return b.String()
}

// Same tells whether two texts differ by A to Z and a to z alone.
func Same(a string, b string) bool {
	return len(a) == len(b) && Lower(a) == Lower(b)
}
