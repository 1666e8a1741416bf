// Package talk lets mails come in: see doc/03-talk.md.
// So far it has its face alone: every call answers zero values.
package talk

import "post/api"

// Talk is one with somebody who sends. Make it by New.
type Talk struct{}

// New makes a talk (D1).
func New(name string, users []string) *Talk { return nil }

// Greet is the first reply (D1).
func (t *Talk) Greet() string { return "" }

// Feed takes what comes next (D2).
func (t *Talk) Feed(s string) (string, api.Mail, bool) { return "", api.Mail{}, false }

// Stored tells whether the mail that waits was stored (D2).
func (t *Talk) Stored(ok bool) (string, api.Mail, bool) { return "", api.Mail{}, false }
