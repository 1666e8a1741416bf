// Package disk plays a disk that may crash: see doc/04-disk.md.
// So far it has its face alone: every call answers zero values.
package disk

import "post/api"

// Disk is one. Make it by New.
type Disk struct{}

// New makes a disk without files (E1).
func New() *Disk { return nil }

// Create makes a file (E2).
func (d *Disk) Create(name string) api.Errno { return api.OK }

// Append lays bytes behind a file's (E2).
func (d *Disk) Append(name string, data string) api.Errno { return api.OK }

// Sync makes a file's bytes safe (E2).
func (d *Disk) Sync(name string) api.Errno { return api.OK }

// Rename gives a file another name (E2).
func (d *Disk) Rename(from string, to string) api.Errno { return api.OK }

// Remove takes a file away (E2).
func (d *Disk) Remove(name string) api.Errno { return api.OK }

// SyncDir makes all names safe (E2).
func (d *Disk) SyncDir() api.Errno { return api.OK }

// Read tells a file's bytes (E1).
func (d *Disk) Read(name string) (string, bool) { return "", false }

// Names tells all files' names (E1).
func (d *Disk) Names() []string { return nil }

// Stop lets the disk stop behind so many calls (E4).
func (d *Disk) Stop(n int) {}

// Crash loses what is not safe (E3).
func (d *Disk) Crash(keep int, tails []int) {}
