package ascii

import "testing"

func TestLower(t *testing.T) {
	for s, want := range map[string]string{"": "", "AbZz": "abzz", "@[`{09-.": "@[`{09-.", "A\x00\xffZ": "a\x00\xffz", "\u212a\u00c4": "\u212a\u00c4"} {
		if got := Lower(s); got != want {
			t.Errorf("Lower(%q) = %q, want %q", s, got, want)
		}
	}
}
