// Package send tells when mails are tried again: see doc/07-send.md.
// So far it has its face alone: every call answers zero values.
package send

import "post/api"

// Next tells when a mail is tried again (J1).
func Next(tries int, last int) (int, bool) { return 0, false }

// Here tells whether an address is of a host (J2).
func Here(name string, a api.Address) bool { return false }

// Fate tells what a domain does (J2).
func Fate(l []api.Fate, domain string) int { return 0 }

// Bounce makes the mail that tells that one did not come (J3).
func Bounce(m api.Mail, to api.Address) (api.Mail, bool) { return api.Mail{}, false }
