// Package disktest helps tests of packages that stand on a disk.
package disktest

import (
	"math"

	"post/disk"
)

// File is a name and bytes.
type File struct {
	Name string
	Data string
}

// With makes a disk of files that are safe, each with its name as its bytes.
func With(names ...string) *disk.Disk {
	d := disk.New()
	for _, name := range names {
		d.Create(name)
		d.Append(name, name)
		d.Sync(name)
	}
	d.SyncDir()
	return d
}

// Files tells all files of a disk, rising by their names.
func Files(d *disk.Disk) []File {
	var all []File
	for _, name := range d.Names() {
		data, _ := d.Read(name)
		all = append(all, File{name, data})
	}
	return all
}

// Again tells how a disk comes to run again that has stopped: first by a Stop
// without a crash, then by crashes that keep nothing, some or all of what is
// not safe; the first one of these keeps nothing.
func Again() []func(*disk.Disk) {
	const all = math.MaxInt
	ways := []func(*disk.Disk){func(d *disk.Disk) { d.Stop(all) }}
	for _, keep := range []int{-1, 0, 1, 2, 3, all} {
		for _, tails := range [][]int{nil, {1}, {2, 5}, {0, all}, {all, -1}, {all}} {
			ways = append(ways, func(d *disk.Disk) { d.Crash(keep, tails) })
		}
	}
	return ways
}
