package disk

import (
	"fmt"
	"maps"
	"math"
	"math/rand"
	"slices"
	"strings"
	"testing"

	"post/api"
)

// expect holds an answer of a call that writes against what it should be.
func expect(t *testing.T, promise string, got api.Errno, want api.Errno) {
	t.Helper()
	if got != want {
		t.Fatalf("%s: answered %d, want %d", promise, got, want)
	}
}

// all tells names and bytes of all files.
func all(d *Disk) string {
	var told []string
	for _, name := range d.Names() {
		data, ok := d.Read(name)
		if !ok {
			data = "(none)"
		}
		told = append(told, name+"="+data)
	}
	return strings.Join(told, " ")
}

func expectAll(t *testing.T, promise string, d *Disk, want string) {
	t.Helper()
	if got := all(d); got != want {
		t.Fatalf("%s: the disk has %q, want %q", promise, got, want)
	}
}

// with makes a disk of files whose names and bytes are safe.
func with(t *testing.T, files ...string) *Disk {
	t.Helper()
	d := New()
	for _, f := range files {
		name, data, _ := strings.Cut(f, "=")
		expect(t, "E2", d.Create(name), api.OK)
		expect(t, "E2", d.Append(name, data), api.OK)
		expect(t, "E2", d.Sync(name), api.OK)
	}
	expect(t, "E2", d.SyncDir(), api.OK)
	return d
}

func TestE1NewIsEmpty(t *testing.T) {
	d := New()
	if data, ok := d.Read(""); data != "" || ok || len(d.Names()) != 0 {
		t.Errorf("E1: a new disk has %q, %t, %q", data, ok, d.Names())
	}
}

func TestE1ReadAndNames(t *testing.T) {
	d := New()
	for _, name := range []string{"b", "", "a/b", "\xff", "B", "a", "\x00", "b b", "ab"} {
		expect(t, "E1", d.Create(name), api.OK)
	}
	want := []string{"", "\x00", "B", "a", "a/b", "ab", "b", "b b", "\xff"}
	if got := d.Names(); !slices.Equal(got, want) {
		t.Errorf("E1: Names() = %q, want %q", got, want)
	}
	expect(t, "E1", d.Append("", "\x00x\xff"), api.OK)
	if data, ok := d.Read(""); data != "\x00x\xff" || !ok {
		t.Errorf("E1: Read = %q, %t", data, ok)
	}
	if data, ok := d.Read("a"); data != "" || !ok {
		t.Errorf("E1: Read of a file without bytes = %q, %t", data, ok)
	}
	if data, ok := d.Read("c"); data != "" || ok {
		t.Errorf("E1: Read of no file = %q, %t", data, ok)
	}
}

func TestE1AnswersAreNew(t *testing.T) {
	d := with(t, "a=1", "b=2")
	first := d.Names()
	first[0] = "z"
	expectAll(t, "G4", d, "a=1 b=2")
	old, _ := d.Read("a")
	expect(t, "E2", d.Append("a", "23"), api.OK)
	d.Crash(0, nil)
	expect(t, "E2", d.Append("a", "99"), api.OK)
	if old != "1" {
		t.Errorf("G4: an answer became %q", old)
	}
}

func TestE1TwoShareNothing(t *testing.T) {
	one, two := with(t, "a=1"), with(t, "a=2")
	one.Stop(0)
	expect(t, "E1", two.Append("a", "x"), api.OK)
	expect(t, "E1", two.Rename("a", "b"), api.OK)
	two.Crash(1, []int{1})
	expectAll(t, "E1", one, "a=1")
	expectAll(t, "E1", two, "b=2x")
	expect(t, "E1", one.Sync("a"), api.ErrDead)
}

func TestE2Create(t *testing.T) {
	d := New()
	expect(t, "E2", d.Create("a"), api.OK)
	expect(t, "E2", d.Append("a", "x"), api.OK)
	expect(t, "E2", d.Create("a"), api.ErrTwice)
	expectAll(t, "E2", d, "a=x")
	expect(t, "E2", d.Remove("a"), api.OK)
	expect(t, "E2", d.Create("a"), api.OK)
	expectAll(t, "E2", d, "a=")
}

func TestE2Append(t *testing.T) {
	d := with(t, "a=1", "b=2")
	expect(t, "E2", d.Append("c", "x"), api.ErrNone)
	expect(t, "E2", d.Append("a", ""), api.OK)
	expect(t, "E2", d.Append("a", "x\r\n"), api.OK)
	expect(t, "E2", d.Append("a", "y"), api.OK)
	expectAll(t, "E2", d, "a=1x\r\ny b=2")
}

func TestE2Sync(t *testing.T) {
	d := with(t, "a=1", "b=2")
	expect(t, "E2", d.Sync("c"), api.ErrNone)
	expect(t, "E2", d.Append("a", "x"), api.OK)
	expect(t, "E2", d.Append("b", "y"), api.OK)
	expect(t, "E2", d.Sync("a"), api.OK)
	expect(t, "E2", d.Append("a", "z"), api.OK)
	expectAll(t, "E2", d, "a=1xz b=2y")
	d.Crash(0, nil)
	expectAll(t, "E2", d, "a=1x b=2")
}

func TestE2Rename(t *testing.T) {
	d := with(t, "a=1", "b=2")
	expect(t, "E2", d.Rename("c", "a"), api.ErrNone)
	expect(t, "E2", d.Rename("c", "c"), api.ErrNone)
	expectAll(t, "E2", d, "a=1 b=2")
	expect(t, "E2", d.Rename("a", "a"), api.OK)
	expectAll(t, "E2", d, "a=1 b=2")
	expect(t, "E2", d.Rename("a", "c"), api.OK)
	expectAll(t, "E2", d, "b=2 c=1")
	expect(t, "E2", d.Rename("b", "c"), api.OK)
	expectAll(t, "E2", d, "c=2")
	expect(t, "E2", d.Append("c", "3"), api.OK)
	expectAll(t, "E2", d, "c=23")
	expect(t, "E2", d.Append("b", "3"), api.ErrNone)
}

func TestE2Remove(t *testing.T) {
	d := with(t, "a=1", "b=2")
	expect(t, "E2", d.Remove("c"), api.ErrNone)
	expect(t, "E2", d.Remove("a"), api.OK)
	expectAll(t, "E2", d, "b=2")
	expect(t, "E2", d.Remove("a"), api.ErrNone)
	expect(t, "E2", d.Append("a", "x"), api.ErrNone)
}

func TestE2SyncDirMakesNamesSafe(t *testing.T) {
	d := New()
	expect(t, "E2", d.SyncDir(), api.OK)
	expect(t, "E2", d.Create("a"), api.OK)
	expect(t, "E2", d.Create("b"), api.OK)
	expect(t, "E2", d.Append("b", "x"), api.OK)
	expect(t, "E2", d.Rename("a", "c"), api.OK)
	expect(t, "E2", d.SyncDir(), api.OK)
	expect(t, "E2", d.Remove("b"), api.OK)
	d.Crash(0, nil)
	expectAll(t, "E2", d, "b= c=") // names are safe, bytes are not
}

// busy makes a disk with five changes, some bytes that are not safe, and calls that were refused.
func busy(t *testing.T) *Disk {
	t.Helper()
	d := with(t, "a=1", "b=2")
	expect(t, "E3", d.Create("c"), api.OK)
	expect(t, "E3", d.Append("c", "cc"), api.OK)
	expect(t, "E3", d.Create("c"), api.ErrTwice)
	expect(t, "E3", d.Rename("a", "b"), api.OK)
	expect(t, "E3", d.Rename("a", "d"), api.ErrNone)
	expect(t, "E3", d.Rename("b", "b"), api.OK)
	expect(t, "E3", d.Remove("c"), api.OK)
	expect(t, "E3", d.Remove("c"), api.ErrNone)
	expect(t, "E3", d.Append("b", "+"), api.OK)
	expect(t, "E3", d.Create("c"), api.OK)
	return d
}

func TestE3KeepsTheFirstChanges(t *testing.T) {
	for keep, want := range map[int]string{
		math.MinInt: "a=1+ b=2", -1: "a=1+ b=2", 0: "a=1+ b=2", 1: "a=1+ b=2 c=cc", 2: "b=1+ c=cc", 3: "b=1+ c=cc",
		4: "b=1+", 5: "b=1+ c=", 6: "b=1+ c=", math.MaxInt: "b=1+ c=",
	} {
		d := busy(t)
		d.Crash(keep, []int{9})
		expectAll(t, fmt.Sprint("E3: keep ", keep), d, want)
	}
}

func TestE3Tails(t *testing.T) {
	for _, c := range []struct {
		tails []int
		want  string
	}{
		{nil, "a=1 b= c=5 d="},
		{[]int{}, "a=1 b= c=5 d="},
		{[]int{0}, "a=1 b= c=5 d="},
		{[]int{-1}, "a=1 b= c=5 d="},
		{[]int{math.MinInt}, "a=1 b= c=5 d="},
		{[]int{1}, "a=12 b=x c=5 d=y"},
		{[]int{2}, "a=123 b=xx c=5 d=yy"},
		{[]int{3}, "a=123 b=xxx c=5 d=yy"},
		{[]int{math.MaxInt}, "a=123 b=xxx c=5 d=yy"},
		{[]int{1, 2}, "a=12 b=xx c=5 d=yy"},
		{[]int{0, 9, -7}, "a=1 b=xxx c=5 d="},
		{[]int{1, 1, 9, 1}, "a=12 b=x c=5 d=y"},
		{[]int{0, 0, 0, 2, 9}, "a=1 b= c=5 d=yy"},
	} {
		d := with(t, "c=5", "a=1", "d=", "b=")
		for _, f := range []string{"a=2", "b=xx", "d=yy", "b=x", "a=3"} {
			name, data, _ := strings.Cut(f, "=")
			expect(t, "E3", d.Append(name, data), api.OK)
		}
		kept := slices.Clone(c.tails)
		d.Crash(0, c.tails)
		expectAll(t, fmt.Sprint("E3: tails ", c.tails), d, c.want)
		if !slices.Equal(kept, c.tails) {
			t.Errorf("G4: Crash changed %v to %v", kept, c.tails)
		}
	}
}

func TestE3TailsAreThoseOfTheNamesThatAreKept(t *testing.T) {
	d := with(t, "a=", "c=")
	expect(t, "E3", d.Append("a", "aaa"), api.OK)
	expect(t, "E3", d.Append("c", "ccc"), api.OK)
	expect(t, "E3", d.Rename("a", "d"), api.OK)
	expect(t, "E3", d.Create("b"), api.OK)
	expect(t, "E3", d.Append("b", "bbb"), api.OK)
	d.Crash(1, []int{1, 2}) // b has no name any more: c is the first one, d the second one
	expectAll(t, "E3", d, "c=c d=aa")
}

func TestE3BytesAreAFilesWhateverItsName(t *testing.T) {
	d := with(t, "a=1", "b=2")
	expect(t, "E3", d.Append("a", "x"), api.OK)
	expect(t, "E3", d.Rename("a", "b"), api.OK)
	expect(t, "E3", d.Append("b", "y"), api.OK)
	expect(t, "E3", d.Sync("b"), api.OK)
	expect(t, "E3", d.Append("b", "z"), api.OK)
	expect(t, "E3", d.Remove("b"), api.OK)
	expect(t, "E3", d.Create("b"), api.OK)
	expect(t, "E3", d.Append("b", "new"), api.OK)
	expect(t, "E3", d.Sync("b"), api.OK)
	d.Crash(0, nil)
	expectAll(t, "E3", d, "a=1xy b=2")
}

func TestE3BehindItAllIsSafe(t *testing.T) {
	d := busy(t)
	d.Crash(3, []int{1, 2})
	expectAll(t, "E3", d, "b=1+ c=cc")
	d.Crash(9, []int{9})
	expectAll(t, "E3", d, "b=1+ c=cc")
	expect(t, "E3", d.Append("b", "!?"), api.OK)
	expect(t, "E3", d.Remove("c"), api.OK)
	d.Crash(0, []int{1})
	expectAll(t, "E3", d, "b=1+! c=cc")
	d.Crash(1, nil)
	expectAll(t, "E3", d, "b=1+! c=cc")
}

func TestE3SyncDirForgetsNoBytes(t *testing.T) {
	d := with(t, "a=1")
	expect(t, "E3", d.Append("a", "23"), api.OK)
	expect(t, "E3", d.Rename("a", "b"), api.OK)
	expect(t, "E3", d.SyncDir(), api.OK)
	expect(t, "E3", d.Create("a"), api.OK)
	d.Crash(0, []int{1})
	expectAll(t, "E3", d, "b=12")
}

// writes makes one call of each kind that writes, on a disk with files a and b; the last one of all is Remove.
func writes(d *Disk) []api.Errno {
	return []api.Errno{d.Create("c"), d.Append("a", "x"), d.Sync("a"), d.Rename("b", "d"), d.SyncDir(), d.Remove("d")}
}

func TestE4StopInTheMidstOfCalls(t *testing.T) {
	for n, want := range []string{"a=1 b=2", "a=1 b=2 c=", "a=1x b=2 c=", "a=1x b=2 c=", "a=1x c= d=2", "a=1x c= d=2", "a=1x c=", "a=1x c="} {
		d := with(t, "a=1", "b=2")
		d.Stop(n)
		for i, e := range writes(d) {
			if (e == api.OK) != (i < n) || (e == api.ErrDead) != (i >= n) {
				t.Errorf("E4: behind Stop(%d) call %d answered %d", n, i, e)
			}
		}
		expectAll(t, fmt.Sprint("E4: Stop ", n), d, want)
	}
}

func TestE4ADeadDiskDoesNothing(t *testing.T) {
	for _, n := range []int{0, -1, math.MinInt} {
		d := with(t, "a=1", "b=2")
		expect(t, "E4", d.Append("a", "x"), api.OK)
		expect(t, "E4", d.Remove("b"), api.OK)
		d.Stop(n)
		for _, e := range []api.Errno{d.Create("a"), d.Append("z", "x"), d.Sync("z"), d.Rename("z", "y"), d.Remove("z"), d.Sync("a"), d.SyncDir()} {
			expect(t, "E4", e, api.ErrDead)
		}
		expectAll(t, "E4", d, "a=1x")
		d.Crash(0, nil)
		expectAll(t, "E4", d, "a=1 b=2")
		expect(t, "E4", d.Append("a", "y"), api.OK)
	}
}

func TestE4RefusedCallsCount(t *testing.T) {
	d := with(t, "a=1")
	d.Stop(6)
	for _, e := range []api.Errno{d.Append("z", ""), d.Sync("z"), d.Rename("z", "a"), d.Remove("z")} {
		expect(t, "E4", e, api.ErrNone)
	}
	expect(t, "E4", d.Create("a"), api.ErrTwice)
	d.Read("a")
	d.Names()
	expect(t, "E4", d.Rename("a", "a"), api.OK)
	expect(t, "E4", d.Sync("a"), api.ErrDead)
}

func TestE4StopBehindStop(t *testing.T) {
	d := with(t, "a=1")
	d.Stop(0)
	expect(t, "E4", d.Sync("a"), api.ErrDead)
	d.Stop(2)
	expect(t, "E4", d.Append("a", "x"), api.OK)
	d.Stop(1)
	expect(t, "E4", d.Append("a", "y"), api.OK)
	expect(t, "E4", d.Append("a", "z"), api.ErrDead)
	expectAll(t, "E4", d, "a=1xy")
	d.Stop(math.MaxInt)
	expect(t, "E4", d.Append("a", "z"), api.OK)
	d.Stop(-5)
	expect(t, "E4", d.Append("a", "z"), api.ErrDead)
}

func TestE4CrashEndsAStop(t *testing.T) {
	d := with(t, "a=1")
	d.Stop(1)
	d.Crash(0, nil)
	for range 5 {
		expect(t, "E4", d.Append("a", "x"), api.OK)
	}
	d.Stop(0)
	d.Crash(-1, []int{3})
	expect(t, "E4", d.SyncDir(), api.OK)
	expectAll(t, "E4", d, "a=1xxx")
}

// model plays the disk by the words of E1 to E4: it keeps names as they were behind each change.
type model struct {
	states [][]named // the first one: the safe names
	left   int       // below 0: it never stops
}

type named struct {
	name string
	data *modelData
}

type modelData struct{ safe, loose string }

func (m *model) now() []named { return m.states[len(m.states)-1] }

func (m *model) find(name string) *modelData {
	for _, n := range m.now() {
		if n.name == name {
			return n.data
		}
	}
	return nil
}

func (m *model) without(names ...string) []named {
	var rest []named
	for _, n := range m.now() {
		if !slices.Contains(names, n.name) {
			rest = append(rest, n)
		}
	}
	return rest
}

func (m *model) write(call string, name string, other string) api.Errno {
	if m.left == 0 {
		return api.ErrDead
	}
	if m.left > 0 {
		m.left--
	}
	f := m.find(name)
	switch {
	case call == "SyncDir":
		m.states = [][]named{m.now()}
		return api.OK
	case call == "Create" && f != nil:
		return api.ErrTwice
	case call == "Create":
		m.states = append(m.states, append(m.without(), named{name, &modelData{}}))
		return api.OK
	case f == nil:
		return api.ErrNone
	case call == "Append":
		f.loose += other
	case call == "Sync":
		*f = modelData{safe: f.safe + f.loose}
	case call == "Rename":
		m.states = append(m.states, append(m.without(name, other), named{other, f}))
	case call == "Remove":
		m.states = append(m.states, m.without(name))
	}
	return api.OK
}

func (m *model) crash(keep int, tails []int) {
	keep = min(max(keep, 0), len(m.states)-1)
	files := slices.Clone(m.states[keep])
	slices.SortFunc(files, func(x, y named) int { return strings.Compare(x.name, y.name) })
	for i, n := range files {
		kept := ""
		if len(tails) > 0 {
			kept = n.data.loose[:min(max(tails[i%len(tails)], 0), len(n.data.loose))]
		}
		files[i].data = &modelData{safe: n.data.safe + kept}
	}
	*m = model{states: [][]named{files}, left: -1}
}

func (m *model) all() string {
	files := map[string]string{}
	for _, n := range m.now() {
		files[n.name] = n.data.safe + n.data.loose
	}
	var told []string
	for _, name := range slices.Sorted(maps.Keys(files)) {
		told = append(told, name+"="+files[name])
	}
	return strings.Join(told, " ")
}

func write(d *Disk, call string, name string, other string) api.Errno {
	switch call {
	case "Create":
		return d.Create(name)
	case "Append":
		return d.Append(name, other)
	case "Sync":
		return d.Sync(name)
	case "Rename":
		return d.Rename(name, other)
	case "Remove":
		return d.Remove(name)
	}
	return d.SyncDir()
}

func TestE1ToE4AgainstAModel(t *testing.T) {
	calls := []string{"Create", "Create", "Append", "Append", "Append", "Sync", "Rename", "Rename", "Remove", "SyncDir"}
	names := []string{"a", "b", "c", "d", ""}
	for seed := range int64(600) {
		r := rand.New(rand.NewSource(seed))
		pick := func(l []string) string { return l[r.Intn(len(l))] }
		d, m := New(), &model{states: [][]named{nil}, left: -1}
		var done []string
		for range 120 {
			switch r.Intn(16) {
			case 0:
				keep, tails := r.Intn(9)-1, make([]int, r.Intn(4))
				for i := range tails {
					tails[i] = r.Intn(7) - 1
				}
				done = append(done, fmt.Sprint("Crash ", keep, tails))
				d.Crash(keep, tails)
				m.crash(keep, tails)
			case 1:
				n := r.Intn(20) - 1
				done = append(done, fmt.Sprint("Stop ", n))
				d.Stop(n)
				m.left = max(n, 0)
			default:
				call, name, other := pick(calls), pick(names), pick(names)
				done = append(done, fmt.Sprintf("%s %q %q", call, name, other))
				if got, want := write(d, call, name, other), m.write(call, name, other); got != want {
					t.Fatalf("E2: %q: answered %d, want %d", done, got, want)
				}
			}
			if all(d) != m.all() {
				t.Fatalf("E3: %q: the disk has %q, want %q", done, all(d), m.all())
			}
		}
	}
}
