// Package box keeps letters that have come: see doc/06-box.md.
// So far it has its face alone: every call answers zero values.
package box

import (
	"post/api"
	"post/disk"
)

// Deliver lays a letter into a box (H2).
func Deliver(d *disk.Disk, user string, key string, data string) api.Errno { return api.OK }

// Letters tells all letters of a box (H3).
func Letters(d *disk.Disk, user string) []api.Letter { return nil }

// Users tells who has letters (H3).
func Users(d *disk.Disk) []string { return nil }

// Clean takes away what belongs to no letter (H4).
func Clean(d *disk.Disk) api.Errno { return api.OK }
