// Package box keeps letters that have come: see doc/06-box.md.
//
// Each letter is a file with its data. It is written under another name, and
// has its own only when its bytes are safe: so what has the name of a letter is whole.
package box

import (
	"slices"

	"post/api"
	"post/disk"
)

// Deliver lays a letter into a box (H2).
func Deliver(d *disk.Disk, user string, key string, data string) api.Errno {
	var l steps
	name := letter{user, key}.name()
	if _, ok := d.Read(name); !ok {
		l = append(sweep(d),
			func() api.Errno { return d.Create(fresh) },
			func() api.Errno { return d.Append(fresh, data) },
			func() api.Errno { return d.Sync(fresh) },
			func() api.Errno { return d.Rename(fresh, name) },
		)
	}
	// One that is there already may have a name that is not safe yet.
	return append(l, d.SyncDir).do()
}

// Letters tells all letters of a box (H3).
func Letters(d *disk.Disk, user string) []api.Letter {
	var told []api.Letter
	for _, l := range letters(d) {
		if l.user == user {
			data, _ := d.Read(l.name())
			told = append(told, api.Letter{Key: l.key, Data: data})
		}
	}
	return told
}

// Users tells who has letters (H3).
func Users(d *disk.Disk) []string {
	var told []string
	for _, l := range letters(d) {
		told = append(told, l.user)
	}
	return slices.Compact(told)
}

// Clean takes away what belongs to no letter (H4).
func Clean(d *disk.Disk) api.Errno {
	return append(sweep(d), d.SyncDir).do()
}
