package box

import (
	"cmp"
	"slices"
	"strconv"
	"strings"

	"post/api"
	"post/disk"
)

const (
	boxes = "box/"
	fresh = boxes + "new" // a letter that is being written
)

// letter is whose it is, and which one.
type letter struct {
	user string
	key  string
}

// name tells the name of its file. The user's length stands ahead, for user and key are any texts.
func (l letter) name() string {
	return boxes + strconv.Itoa(len(l.user)) + ":" + l.user + l.key
}

// letterOf tells the letter of that name.
func letterOf(name string) (letter, bool) {
	rest, ours := strings.CutPrefix(name, boxes)
	size, texts, ok := strings.Cut(rest, ":")
	n, err := strconv.Atoi(size)
	if !ours || !ok || err != nil || n < 0 || n > len(texts) {
		return letter{}, false
	}
	return letter{texts[:n], texts[n:]}, true
}

// letters tells all that are there, by users, and those of a user by their keys.
func letters(d *disk.Disk) []letter {
	var all []letter
	for _, name := range d.Names() {
		if l, ok := letterOf(name); ok {
			all = append(all, l)
		}
	}
	slices.SortFunc(all, func(a, b letter) int {
		return cmp.Or(strings.Compare(a.user, b.user), strings.Compare(a.key, b.key))
	})
	return all
}

// steps are calls that write to the disk, in their order.
type steps []func() api.Errno

// do makes them, up to the first one that is refused.
func (l steps) do() api.Errno {
	for _, step := range l {
		if e := step(); e != api.OK {
			return e
		}
	}
	return api.OK
}

// sweep tells how to take away what a Deliver has left that was stopped.
func sweep(d *disk.Disk) steps {
	if _, ok := d.Read(fresh); !ok {
		return nil
	}
	return steps{func() api.Errno { return d.Remove(fresh) }}
}
