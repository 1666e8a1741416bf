// Package post takes mails in, and brings them where they go: see doc/08-post.md.
// So far it has its face alone: every call answers zero values.
package post

import (
	"post/api"
	"post/disk"
)

// Post is one on a disk. Open makes it.
type Post struct{}

// Open makes a post of what is on a disk (K1).
func Open(d *disk.Disk, name string, users []string) (*Post, api.Errno) { return nil, api.OK }

// Talk begins a talk (K2).
func (p *Post) Talk() (int, string) { return 0, "" }

// Say takes what comes next of a talk (K2).
func (p *Post) Say(talk int, s string) (string, api.Errno) { return "", api.OK }

// Run brings mails where they go, once (K3).
func (p *Post) Run(now int, fates []api.Fate) []api.Sent { return nil }

// Waiting tells which mails wait (K1).
func (p *Post) Waiting() []int { return nil }

// Box tells what has come to a user (K1).
func (p *Post) Box(user string) []api.Letter { return nil }
