// Package disk plays a disk that may crash: see doc/04-disk.md.
package disk

import (
	"maps"
	"slices"

	"post/api"
)

// change is what a call did to names. It can be done again to names as they were then.
type change func(map[string]*file)

// Disk is one. Make it by New.
type Disk struct {
	now     map[string]*file // by names
	safe    map[string]*file // as now was at the last SyncDir or Crash
	changes []change         // what made now of safe
	stops   bool
	left    int // if it stops: how many more calls write
}

// New makes a disk without files (E1).
func New() *Disk {
	return &Disk{now: make(map[string]*file), safe: make(map[string]*file)}
}

// Create makes a file (E2).
func (d *Disk) Create(name string) api.Errno {
	if !d.runs() {
		return api.ErrDead
	}
	if _, ok := d.now[name]; ok {
		return api.ErrTwice
	}
	made := new(file)
	d.do(func(names map[string]*file) { names[name] = made })
	return api.OK
}

// Append lays bytes behind a file's (E2).
func (d *Disk) Append(name string, data string) api.Errno {
	f, e := d.toWrite(name)
	if e == api.OK {
		f.bytes.WriteString(data)
	}
	return e
}

// Sync makes a file's bytes safe (E2).
func (d *Disk) Sync(name string) api.Errno {
	f, e := d.toWrite(name)
	if e == api.OK {
		f.safe = f.bytes.Len()
	}
	return e
}

// Rename gives a file another name (E2).
func (d *Disk) Rename(from string, to string) api.Errno {
	f, e := d.toWrite(from)
	if e == api.OK {
		d.do(func(names map[string]*file) {
			delete(names, from)
			names[to] = f
		})
	}
	return e
}

// Remove takes a file away (E2).
func (d *Disk) Remove(name string) api.Errno {
	_, e := d.toWrite(name)
	if e == api.OK {
		d.do(func(names map[string]*file) { delete(names, name) })
	}
	return e
}

// SyncDir makes all names safe (E2).
func (d *Disk) SyncDir() api.Errno {
	if !d.runs() {
		return api.ErrDead
	}
	d.settle(len(d.changes))
	return api.OK
}

// Read tells a file's bytes (E1).
func (d *Disk) Read(name string) (string, bool) {
	f, ok := d.now[name]
	if !ok {
		return "", false
	}
	return f.bytes.String(), true
}

// Names tells all files' names (E1).
func (d *Disk) Names() []string {
	return sorted(d.now)
}

// Stop lets the disk stop behind so many calls (E4).
func (d *Disk) Stop(n int) {
	d.stops, d.left = true, max(n, 0)
}

// Crash loses what is not safe (E3).
func (d *Disk) Crash(keep int, tails []int) {
	d.settle(min(max(keep, 0), len(d.changes)))
	for i, name := range sorted(d.safe) {
		tail := 0
		if len(tails) > 0 {
			tail = tails[i%len(tails)]
		}
		d.safe[name].crash(tail)
	}
	*d = Disk{now: maps.Clone(d.safe), safe: d.safe}
}

// runs counts a call that writes, and tells whether it is made.
func (d *Disk) runs() bool {
	if !d.stops {
		return true
	}
	if d.left == 0 {
		return false
	}
	d.left--
	return true
}

// toWrite counts a call that writes, and finds the file that it is for.
func (d *Disk) toWrite(name string) (*file, api.Errno) {
	if !d.runs() {
		return nil, api.ErrDead
	}
	f, ok := d.now[name]
	if !ok {
		return nil, api.ErrNone
	}
	return f, api.OK
}

func (d *Disk) do(c change) {
	c(d.now)
	d.changes = append(d.changes, c)
}

// settle does the first so many changes again, to the safe names, and forgets them all.
func (d *Disk) settle(keep int) {
	for _, c := range d.changes[:keep] {
		c(d.safe)
	}
	d.changes = nil
}

func sorted(names map[string]*file) []string {
	return slices.Sorted(maps.Keys(names))
}
