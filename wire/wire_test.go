package wire

import (
	"math"
	"slices"
	"strings"
	"testing"

	"post/api"
)

func feedAll(r *Reader, pieces ...string) []api.Line {
	var all []api.Line
	for _, s := range pieces {
		all = append(all, r.Feed(s)...)
	}
	return all
}

func expectLines(t *testing.T, promise string, got []api.Line, want ...api.Line) {
	t.Helper()
	if !slices.Equal(got, want) {
		t.Errorf("%s: lines %+v, want %+v", promise, got, want)
	}
}

func expectRest(t *testing.T, r *Reader, want int) {
	t.Helper()
	if got := r.Rest(); got != want {
		t.Errorf("B2: Rest() = %d, want %d", got, want)
	}
}

func TestB1Bounds(t *testing.T) {
	for most, made := range map[int]bool{math.MinInt: false, -1: false, 0: false, 1: true, 2: true, 1000: true, 99999: true, 100000: true, 100001: false, math.MaxInt: false} {
		if r := New(most); (r != nil) != made {
			t.Errorf("B1: New(%d) made one: %t, want %t", most, r != nil, made)
		}
	}
}

func TestB1TwoShareNothing(t *testing.T) {
	one, two := New(3), New(4)
	one.Feed("ab\r")
	expectRest(t, two, 0)
	expectLines(t, "B1", two.Feed("\nxyz\r\n"), api.Line{Text: "\nxyz", Bad: 1})
	expectLines(t, "B1", one.Feed("\n"), api.Line{Text: "ab"})
}

func TestB1RefusedReaderIsSafe(t *testing.T) {
	r := New(0)
	if l := r.Feed("a\r\n"); l != nil || r.Rest() != 0 {
		t.Errorf("G1: a reader that is none: %+v, %d", l, r.Rest())
	}
}

func TestB2Lines(t *testing.T) {
	r := New(10)
	if l := r.Feed(""); l != nil {
		t.Errorf("B2: of nothing: %+v", l)
	}
	expectLines(t, "B2", r.Feed("HELO x\r\n\r\n.\r\nNO"), api.Line{Text: "HELO x"}, api.Line{}, api.Line{Text: "."})
	expectRest(t, r, 2)
	expectLines(t, "B2", r.Feed("OP"))
	expectRest(t, r, 4)
	expectLines(t, "B2", r.Feed("\r\n\x00\xff\r\n"), api.Line{Text: "NOOP"}, api.Line{Text: "\x00\xff"})
	expectRest(t, r, 0)
}

func TestB2Strays(t *testing.T) {
	r := New(10)
	expectLines(t, "B2", r.Feed("a\nb\r\n\n\r\n\r\r\n\n\r\r\na\rb\r\n\r\r\r\n"),
		api.Line{Text: "a\nb", Bad: 1}, api.Line{Text: "\n", Bad: 1}, api.Line{Text: "\r", Bad: 1},
		api.Line{Text: "\n\r", Bad: 1}, api.Line{Text: "a\rb", Bad: 1}, api.Line{Text: "\r\r", Bad: 1})
	expectRest(t, r, 0)
}

func TestB2CutBetweenCRAndLF(t *testing.T) {
	r := New(3)
	expectLines(t, "B2", r.Feed("abc\r"))
	expectRest(t, r, 4)
	expectLines(t, "B2", r.Feed(""))
	expectLines(t, "B2", r.Feed("\n"), api.Line{Text: "abc"})
	expectRest(t, r, 0)
	expectLines(t, "B2", feedAll(r, "a\r", "b\r", "\n"), api.Line{Text: "a\rb", Bad: 1})
	expectLines(t, "B2", feedAll(r, "\r", "\r", "\n", "\n"), api.Line{Text: "\r", Bad: 1})
	expectRest(t, r, 1)
}

func TestB2TooLong(t *testing.T) {
	for _, most := range []int{1, 5, 1000, 100000} {
		r := New(most)
		full := strings.Repeat("x", most)
		expectLines(t, "B2", r.Feed(full+"\r\n"), api.Line{Text: full})
		expectLines(t, "B2", r.Feed(full+"x\r\n"), api.Line{Bad: 2})
		expectLines(t, "B2", r.Feed(full+"\r\r\n"), api.Line{Bad: 2})
		expectLines(t, "B2", r.Feed(full[1:]+"\r\r\n"), api.Line{Text: full[1:] + "\r", Bad: 1})
		expectLines(t, "B2", r.Feed(full+"\n\r\n"), api.Line{Bad: 2})
		expectLines(t, "B2", r.Feed(full[1:]+"\n\r\n"), api.Line{Text: full[1:] + "\n", Bad: 1})
		expectLines(t, "B2", r.Feed(full+full+full))
		expectRest(t, r, 3*most)
		expectLines(t, "B2", r.Feed("\r"))
		expectRest(t, r, 3*most+1)
		expectLines(t, "B2", r.Feed("\nx\r\n"), api.Line{Bad: 2}, api.Line{Text: "x"})
		expectRest(t, r, 0)
	}
}

func TestB2AnswersAreNew(t *testing.T) {
	r := New(5)
	first := r.Feed("a\r\nb\r\n")
	first[0].Text, first[1].Bad = "z", 7
	expectLines(t, "G4", r.Feed("c\r\nd\r\n"), api.Line{Text: "c"}, api.Line{Text: "d"})
	if first[0].Text != "z" || first[1] != (api.Line{Text: "b", Bad: 7}) {
		t.Errorf("G4: an answer was changed: %+v", first)
	}
}

func TestB3Stuff(t *testing.T) {
	for data, want := range map[string]string{
		"":                    ".\r\n",
		"a\r\n":               "a\r\n.\r\n",
		"a":                   "a\r\n.\r\n",
		".":                   "..\r\n.\r\n",
		".\r\n":               "..\r\n.\r\n",
		"..\r\n.a\r\nb.\r\n":  "...\r\n..a\r\nb.\r\n.\r\n",
		"a\r\n.b":             "a\r\n..b\r\n.\r\n",
		"\r\n\r\n":            "\r\n\r\n.\r\n",
		"a\n.b\r.c\r\n":       "a\n.b\r.c\r\n.\r\n",
		"a\r":                 "a\r\r\n.\r\n",
		"\n":                  "\n\r\n.\r\n",
		"\r":                  "\r\r\n.\r\n",
		"\r\r\n.\xff\x00\r\n": "\r\r\n..\xff\x00\r\n.\r\n",
		"\n\r.\r\n":           "\n\r.\r\n.\r\n",
	} {
		if s := Stuff(data); s != want {
			t.Errorf("B3: Stuff(%q) = %q, want %q", data, s, want)
		}
	}
}

func TestB3Plain(t *testing.T) {
	for _, c := range []struct {
		lines []string
		want  string
	}{
		{nil, ""},
		{[]string{}, ""},
		{[]string{""}, "\r\n"},
		{[]string{"."}, "\r\n"},
		{[]string{"..", "...", ".a", "a.", ""}, ".\r\n..\r\na\r\na.\r\n\r\n"},
		{[]string{"a\r\n.b", "\n.", "\x00\xff"}, "a\r\n.b\r\n\n.\r\n\x00\xff\r\n"},
	} {
		kept := slices.Clone(c.lines)
		if s := Plain(c.lines); s != c.want {
			t.Errorf("B3: Plain(%q) = %q, want %q", c.lines, s, c.want)
		}
		if !slices.Equal(kept, c.lines) {
			t.Errorf("G4: Plain changed %q to %q", kept, c.lines)
		}
	}
}

// whole reads a stream at once, by the words of B2.
func whole(stream string, most int) ([]api.Line, int) {
	parts := strings.Split(stream, "\r\n")
	var lines []api.Line
	for _, text := range parts[:len(parts)-1] {
		switch {
		case len(text) > most:
			lines = append(lines, api.Line{Bad: 2})
		case strings.ContainsAny(text, "\r\n"):
			lines = append(lines, api.Line{Text: text, Bad: 1})
		default:
			lines = append(lines, api.Line{Text: text})
		}
	}
	return lines, len(parts[len(parts)-1])
}

// cut parts a stream behind each byte whose bit is set.
func cut(stream string, bits int) []string {
	var pieces []string
	from := 0
	for i := range len(stream) {
		if bits>>i&1 == 1 {
			pieces = append(pieces, stream[from:i+1])
			from = i + 1
		}
	}
	return append(pieces, stream[from:])
}

func TestB4EveryCutOfShortStreams(t *testing.T) {
	const signs = "a\r\n"
	for code := range 3 * 3 * 3 * 3 * 3 * 3 * 3 {
		stream := ""
		for rest := code; len(stream) < 7; rest /= 3 {
			stream += signs[rest%3 : rest%3+1]
		}
		for most := 1; most <= 3; most++ {
			want, behind := whole(stream, most)
			for bits := range 1 << 6 {
				r := New(most)
				pieces := cut(stream, bits)
				if got := feedAll(r, pieces...); !slices.Equal(got, want) || r.Rest() != behind {
					t.Fatalf("B4: %q, at most %d: %+v and %d, want %+v and %d", pieces, most, got, r.Rest(), want, behind)
				}
			}
		}
	}
}

func expectDataBack(t *testing.T, data string, most int) {
	t.Helper()
	r := New(most)
	lines := r.Feed(Stuff(data))
	var texts []string
	for _, l := range lines {
		if l.Bad != 0 {
			t.Errorf("B4: of %q a line is %+v", data, l)
		}
		texts = append(texts, l.Text)
	}
	last := len(texts) - 1
	if last < 0 || texts[last] != "." || slices.Contains(texts[:last], ".") || r.Rest() != 0 {
		t.Errorf("B4: of %q the lines %q, and %d bytes", data, texts, r.Rest())
		return
	}
	if back := Plain(texts[:last]); back != data {
		t.Errorf("B4: of %q came %q", data, back)
	}
}

func TestB4DataComesBack(t *testing.T) {
	for _, data := range []string{"", "\r\n", ".\r\n", "..\r\n", "hi\r\n", "\r\n\r\n", ".a\r\n\r\n..\r\n.\r\nb\r\n", "\x00\xff .\r\n"} {
		expectDataBack(t, data, 1000)
	}
	long := strings.Repeat("x", 999)
	expectDataBack(t, "."+long[1:]+"\r\n"+long+"x\r\n", 1000)
	for code := range 3 * 3 * 3 * 3 * 3 * 3 {
		data := ""
		for i, rest := 0, code; i < 6; i, rest = i+1, rest/3 {
			data += []string{"", ".", "a.\r\n"}[rest%3]
		}
		if data == "" || strings.HasSuffix(data, "\r\n") {
			expectDataBack(t, data, 20)
		}
	}
}
