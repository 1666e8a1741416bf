package ascii

import "testing"

func TestLower(t *testing.T) {
	for s, want := range map[string]string{"": "", "AbZz": "abzz", "@[`{09-.": "@[`{09-.", "A\x00\xffZ": "a\x00\xffz", "\u212a\u00c4": "\u212a\u00c4"} {
		if got := Lower(s); got != want {
			t.Errorf("Lower(%q) = %q, want %q", s, got, want)
		}
	}
}

func TestSame(t *testing.T) {
	for _, pair := range [][2]string{{"", ""}, {"aBz", "AbZ"}, {"a\xffZ", "A\xffz"}} {
		if !Same(pair[0], pair[1]) {
			t.Errorf("%q and %q are told to be other", pair[0], pair[1])
		}
	}
	for _, pair := range [][2]string{{"", "a"}, {"a", "ab"}, {"a", "b"}, {"@", "`"}, {"[", "{"}, {"k", "\u212a"}, {"\u00e4", "\u00c4"}} {
		if Same(pair[0], pair[1]) || Same(pair[1], pair[0]) {
			t.Errorf("%q and %q are told to be the same", pair[0], pair[1])
		}
	}
}
