package spool

import (
	"maps"
	"slices"
	"strconv"
	"strings"

	"post/api"
)

// left is who is left of a mail: the place of each among all that it goes to, each counted once.
type left map[api.Address]int

// all makes it of a mail that has come to nobody yet.
func all(to []api.Address) left {
	l := make(left)
	for _, a := range to {
		if _, ok := l[a]; !ok {
			l[a] = len(l)
		}
	}
	return l
}

// stillLeft reads it from a mail's file.
func stillLeft(bytes string) left {
	t := text(bytes)
	l := all(t.mail().To)
	l.strike(string(t))
	return l
}

// list tells it in order.
func (l left) list() []api.Address {
	return slices.SortedFunc(maps.Keys(l), func(a, b api.Address) int { return l[a] - l[b] })
}

// mark is what stands in a mail's file for somebody who is done. If a crash
// cuts it, it has no end, and says nothing; the next one has its own beginning.
func mark(place int) string {
	return "+" + strconv.Itoa(place) + "."
}

// strike takes those away who are done by the marks, if nobody is done yet.
func (l left) strike(marks string) {
	to := l.list()
	for m := range strings.SplitSeq(marks, "+") {
		digits, whole := strings.CutSuffix(m, ".")
		place, err := strconv.Atoi(digits)
		if whole && err == nil && place >= 0 && place < len(to) {
			delete(l, to[place])
		}
	}
}
