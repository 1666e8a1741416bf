package box

import (
	"fmt"
	"maps"
	"math"
	"math/rand"
	"reflect"
	"slices"
	"strings"
	"testing"

	"post/api"
	"post/disk"
	"post/disktest"
)

// odd are texts that a file's name might stumble over.
var odd = []string{"", "/", ":", "0:", "3:ann", "3", "ann", "a/n", "an", "n", "new", "box/new", "..", "\r\n", "\x00", "\xff\xfe", "é", "-1:x", "10", "2", strings.Repeat("x", 300)}

func expect(t *testing.T, promise string, got api.Errno, want api.Errno) {
	t.Helper()
	if got != want {
		t.Fatalf("%s: answered %d, want %d", promise, got, want)
	}
}

func mustDeliver(t *testing.T, d *disk.Disk, user string, key string, data string) {
	t.Helper()
	expect(t, "H2: Deliver", Deliver(d, user, key, data), api.OK)
}

// told is all that is told of boxes: of each user all letters.
func told(t *testing.T, d *disk.Disk) map[string][]api.Letter {
	t.Helper()
	users := Users(d)
	if !slices.IsSorted(users) || len(slices.Compact(slices.Clone(users))) != len(users) {
		t.Fatalf("H3: Users answered %q", users)
	}
	all := make(map[string][]api.Letter)
	for _, u := range users {
		all[u] = Letters(d, u)
		if len(all[u]) == 0 || !slices.IsSortedFunc(all[u], func(a, b api.Letter) int { return strings.Compare(a.Key, b.Key) }) {
			t.Fatalf("H3: of %q in the list of users: %q", u, all[u])
		}
	}
	return all
}

func expectTold(t *testing.T, promise string, d *disk.Disk, want map[string][]api.Letter) {
	t.Helper()
	if got := told(t, d); !reflect.DeepEqual(got, want) {
		t.Fatalf("%s: told %.500q, want %.500q", promise, got, want)
	}
}

// ofBoxes counts the files of boxes, and the letters.
func ofBoxes(t *testing.T, d *disk.Disk) (int, int) {
	files, letters := 0, 0
	for _, name := range d.Names() {
		if strings.HasPrefix(name, "box/") {
			files++
		}
	}
	for _, l := range told(t, d) {
		letters += len(l)
	}
	return files, letters
}

func TestH1AnyUserAndKey(t *testing.T) {
	d := disk.New()
	keys := slices.Sorted(slices.Values(odd))
	want := make(map[string][]api.Letter)
	for i, user := range odd {
		for j := range odd { // not in their order
			key := odd[(i+j*5)%len(odd)]
			mustDeliver(t, d, user, key, user+"|"+key)
		}
		for _, key := range keys {
			want[user] = append(want[user], api.Letter{Key: key, Data: user + "|" + key})
		}
	}
	expectTold(t, "H1", d, want)
	d.Crash(0, nil)
	expectTold(t, "H2: behind a crash", d, want)
}

func TestH1OtherFilesAreLeftAloneAndDoNoHarm(t *testing.T) {
	d := disktest.With("", "box", "boxes/3:ann1", "Box/3:ann1", "bo", " box/new", "spool/mail/1", "box\\new", "a/box/3:ann1", "3:ann1")
	foreign := disktest.Files(d)
	if Users(d) != nil || Letters(d, "ann") != nil {
		t.Fatalf("H1: told %q, %q", Users(d), Letters(d, "ann"))
	}
	mustDeliver(t, d, "ann", "1", "one")
	d.Stop(2)
	expect(t, "H2: Deliver", Deliver(d, "ann", "2", "two"), api.ErrDead)
	d.Crash(9, []int{9})
	expect(t, "H4: Clean", Clean(d), api.OK)
	d.Crash(0, nil)
	expectTold(t, "H1", d, map[string][]api.Letter{"ann": {{Key: "1", Data: "one"}}})
	others := slices.DeleteFunc(disktest.Files(d), func(f disktest.File) bool { return strings.HasPrefix(f.Name, "box/") })
	if !slices.Equal(others, foreign) {
		t.Errorf("H1: the other files are %q, want %q", others, foreign)
	}
}

func TestH2DeliverAgain(t *testing.T) {
	d := disk.New()
	mustDeliver(t, d, "ann", "1", "")
	mustDeliver(t, d, "ann", "2", "two")
	mustDeliver(t, d, "ann", "1", "other")
	mustDeliver(t, d, "ann", "2", "")
	mustDeliver(t, d, "bob", "2", "other")
	want := map[string][]api.Letter{"ann": {{Key: "1"}, {Key: "2", Data: "two"}}, "bob": {{Key: "2", Data: "other"}}}
	expectTold(t, "H2", d, want)
	d.Crash(0, nil)
	expectTold(t, "H2: behind a crash", d, want)
}

func TestH2AnyData(t *testing.T) {
	d := disk.New()
	var want []api.Letter
	for i, data := range append(odd, strings.Repeat("\x00\r\n", 5000)) {
		key := fmt.Sprintf("%03d", i)
		mustDeliver(t, d, "ann", key, data)
		want = append(want, api.Letter{Key: key, Data: data})
	}
	for _, run := range disktest.Again() {
		run(d)
		if got := Letters(d, "ann"); !slices.Equal(got, want) {
			t.Fatalf("H2: Letters answered %.500q", got)
		}
	}
}

func TestH2ADiskThatHasStopped(t *testing.T) {
	d := disk.New()
	mustDeliver(t, d, "ann", "1", "one")
	d.Stop(0)
	expect(t, "H2: a new one", Deliver(d, "ann", "2", "two"), api.ErrDead)
	expect(t, "H2: one that is there", Deliver(d, "ann", "1", "one"), api.ErrDead)
	expect(t, "H4: Clean", Clean(d), api.ErrDead)
	expectTold(t, "H2", d, map[string][]api.Letter{"ann": {{Key: "1", Data: "one"}}})
}

// someLetters is a disk with three of them, of which none is 2 of ann.
func someLetters(t *testing.T) (*disk.Disk, map[string][]api.Letter) {
	t.Helper()
	d := disk.New()
	mustDeliver(t, d, "ann", "10", "ten")
	mustDeliver(t, d, "a", "nn2", "other")
	mustDeliver(t, d, "bob", "2", "")
	return d, map[string][]api.Letter{"a": {{Key: "nn2", Data: "other"}}, "ann": {{Key: "10", Data: "ten"}}, "bob": {{Key: "2"}}}
}

// with is what is told, if ann has the letter 2, too.
func with(was map[string][]api.Letter, data string) map[string][]api.Letter {
	all := maps.Clone(was)
	all["ann"] = append(slices.Clone(all["ann"]), api.Letter{Key: "2", Data: data})
	return all
}

// oneOf holds what is told against two that may be.
func oneOf(t *testing.T, promise string, d *disk.Disk, a map[string][]api.Letter, b map[string][]api.Letter) {
	t.Helper()
	if got := told(t, d); !reflect.DeepEqual(got, a) && !reflect.DeepEqual(got, b) {
		t.Fatalf("%s: told %q, want %q or %q", promise, got, a, b)
	}
}

func TestH2StopAtEachCallOfDeliver(t *testing.T) {
	for w, run := range disktest.Again() {
		for n, e := 0, api.ErrDead; e != api.OK && n < 50; n++ {
			name := fmt.Sprintf("H2: stopped at %d, way %d", n, w)
			d, was := someLetters(t)
			d.Stop(n)
			e = Deliver(d, "ann", "2", "two\r\n")
			if e != api.OK && e != api.ErrDead {
				t.Fatalf("%s: answered %d", name, e)
			}
			oneOf(t, name+", ahead of it", d, was, with(was, "two\r\n"))
			ahead := told(t, d)
			run(d)
			if e == api.OK {
				expectTold(t, name, d, with(was, "two\r\n"))
			}
			oneOf(t, name, d, ahead, was)
		}
	}
}

func TestH2DeliverAgainBehindAStop(t *testing.T) {
	for w, run := range disktest.Again() {
		for n, e := 0, api.ErrDead; e != api.OK && n < 50; n++ {
			for m, f := 0, api.ErrDead; f != api.OK && m < 50; m++ {
				for v, end := range disktest.Again() {
					name := fmt.Sprintf("H2: stopped at %d, way %d, then at %d, way %d", n, w, m, v)
					d, was := someLetters(t)
					d.Stop(n)
					e = Deliver(d, "ann", "2", "two\r\n")
					run(d)
					want := with(was, "second")
					if _, ok := told(t, d)["ann"]; ok && len(Letters(d, "ann")) == 2 {
						want = with(was, "two\r\n")
					}
					d.Stop(m)
					f = Deliver(d, "ann", "2", "second")
					oneOf(t, name+", ahead of it", d, was, want)
					end(d)
					oneOf(t, name, d, was, want)
					if f == api.OK {
						expectTold(t, name, d, want)
					}
				}
			}
		}
	}
}

func TestH2AnotherLetterBehindAStop(t *testing.T) {
	for _, run := range disktest.Again() {
		for n, e := 0, api.ErrDead; e != api.OK && n < 50; n++ {
			d, _ := someLetters(t)
			d.Stop(n)
			e = Deliver(d, "ann", "2", "two\r\n")
			run(d)
			mustDeliver(t, d, "zed", "1", "z")
			d.Crash(0, nil)
			if l := Letters(d, "zed"); !slices.Equal(l, []api.Letter{{Key: "1", Data: "z"}}) {
				t.Fatalf("H2: stopped at %d: then zed has %q", n, l)
			}
		}
	}
}

func TestH3LettersAndUsersRise(t *testing.T) {
	d := disk.New()
	keys := []string{"2", "10", "1", "", "a", "B", "\xff", "é", "01"}
	users := []string{"bob", "ann", "b", "", "Ann", "annabel", "\xff", "an"}
	for _, u := range users {
		for _, k := range keys {
			mustDeliver(t, d, u, k, "x")
		}
	}
	slices.Sort(keys)
	slices.Sort(users)
	if got := Users(d); !slices.Equal(got, users) {
		t.Errorf("H3: Users answered %q", got)
	}
	for _, u := range users {
		var got []string
		for _, l := range Letters(d, u) {
			got = append(got, l.Key)
		}
		if !slices.Equal(got, keys) {
			t.Errorf("H3: the letters of %q are %q", u, got)
		}
	}
}

func TestH3Nothing(t *testing.T) {
	d := disk.New()
	if Users(d) != nil || Letters(d, "") != nil {
		t.Errorf("H3: of an empty disk: %q, %q", Users(d), Letters(d, ""))
	}
	mustDeliver(t, d, "ann", "1", "one")
	for _, u := range []string{"", "an", "ann1", "Ann", "zed", "3:ann"} {
		if l := Letters(d, u); l != nil {
			t.Errorf("H3: %q has %q", u, l)
		}
	}
}

func TestG4AnswersAreNotShared(t *testing.T) {
	d := disk.New()
	mustDeliver(t, d, "ann", "1", "one")
	for range 2 {
		u, l := Users(d), Letters(d, "ann")
		if !slices.Equal(u, []string{"ann"}) || !slices.Equal(l, []api.Letter{{Key: "1", Data: "one"}}) {
			t.Fatalf("G4: %q, %q", u, l)
		}
		clear(u)
		clear(l)
	}
}

// fewFiles holds the number of files against that of letters: H4 allows one more, which this program does not need.
func fewFiles(t *testing.T, name string, d *disk.Disk) {
	t.Helper()
	if files, letters := ofBoxes(t, d); files != letters {
		t.Fatalf("H4: %s: %d files of %d letters", name, files, letters)
	}
}

func TestH4CleanBehindStops(t *testing.T) {
	for w, run := range disktest.Again() {
		for n, e := 0, api.ErrDead; e != api.OK && n < 50; n++ {
			for m, f := 0, api.ErrDead; f != api.OK && m < 50; m++ {
				name := fmt.Sprintf("stopped at %d, way %d, Clean stopped at %d", n, w, m)
				d, was := someLetters(t)
				for i := range 3 {
					d.Stop(n)
					e = Deliver(d, "ann", "2", fmt.Sprint("two", i))
					run(d)
				}
				is := told(t, d)
				d.Stop(m)
				f = Clean(d)
				expectTold(t, "H4: "+name, d, is)
				if f == api.OK {
					fewFiles(t, name, d)
				}
				run(d)
				if e == api.OK || f == api.OK {
					expectTold(t, "H4: "+name+", behind it", d, is)
				}
				oneOf(t, "H4: "+name+", behind it", d, is, was)
				expect(t, "H4: Clean", Clean(d), api.OK)
				d.Crash(0, nil)
				fewFiles(t, name, d)
			}
		}
	}
}

func TestG1NamesOfNoLetter(t *testing.T) {
	for _, name := range []string{"", "box/", "box/new", "box/:", "box/1:", "box/9:x", "box/-1:x", "box/x:y", "box/99999999999999999999:x", "boxes/1:x"} {
		if l, ok := letterOf(name); ok || l != (letter{}) {
			t.Errorf("G1: %q is the letter %q", name, l)
		}
	}
}

// model is what boxes have to tell.
type model struct {
	sure  map[[2]string]string // letters that survive
	maybe map[[2]string]string // letters that are there, but may be lost by a crash
}

func (m *model) told() map[string][]api.Letter {
	all := make(map[string][]api.Letter)
	for _, l := range []map[[2]string]string{m.sure, m.maybe} {
		for at, data := range l {
			all[at[0]] = append(all[at[0]], api.Letter{Key: at[1], Data: data})
		}
	}
	for _, l := range all {
		slices.SortFunc(l, func(a, b api.Letter) int { return strings.Compare(a.Key, b.Key) })
	}
	return all
}

// deliver delivers, and keeps what has to be there.
func (m *model) deliver(t *testing.T, d *disk.Disk, at [2]string, data string) {
	t.Helper()
	e := Deliver(d, at[0], at[1], data)
	_, safe := m.sure[at]
	was, there := m.maybe[at]
	if there {
		data = was
	}
	switch {
	case e == api.OK && !safe:
		m.sure[at] = data
		delete(m.maybe, at)
	case e == api.ErrDead && !safe && !there:
		m.maybe[at] = data
		if !reflect.DeepEqual(told(t, d), m.told()) {
			delete(m.maybe, at)
		}
	case e != api.OK && e != api.ErrDead:
		t.Fatalf("H2: Deliver answered %d", e)
	}
}

// crash lets a disk run again, and keeps what has to be there: all that is sure, and some that may be.
func (m *model) crash(d *disk.Disk, run func(*disk.Disk)) {
	run(d)
	for at := range m.maybe {
		if !slices.ContainsFunc(Letters(d, at[0]), func(l api.Letter) bool { return l.Key == at[1] }) {
			delete(m.maybe, at)
		}
	}
}

func TestH2Random(t *testing.T) {
	ways := disktest.Again()
	for seed := range 200 {
		r := rand.New(rand.NewSource(int64(seed)))
		d := disk.New()
		m := &model{make(map[[2]string]string), make(map[[2]string]string)}
		for step := range 80 {
			switch r.Intn(10) {
			case 0, 1:
				m.crash(d, ways[r.Intn(len(ways))])
			case 2:
				tails := []int{r.Intn(4), r.Intn(4), r.Intn(4)}
				m.crash(d, func(d *disk.Disk) { d.Crash(r.Intn(5), tails) })
			case 3, 4:
				d.Stop(r.Intn(8))
			case 5:
				if e := Clean(d); e == api.OK {
					fewFiles(t, fmt.Sprint("seed ", seed), d)
				}
			default:
				at := [2]string{odd[r.Intn(len(odd))], odd[r.Intn(5)]}
				m.deliver(t, d, at, odd[r.Intn(len(odd))]+fmt.Sprint(step))
			}
			expectTold(t, fmt.Sprintf("H2: seed %d, step %d", seed, step), d, m.told())
		}
		d.Stop(math.MaxInt)
		expect(t, "H4: Clean", Clean(d), api.OK)
	}
}
