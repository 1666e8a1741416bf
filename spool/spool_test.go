package spool

import (
	"fmt"
	"math"
	"reflect"
	"slices"
	"strings"
	"testing"

	"post/api"
	"post/disk"
	"post/disktest"
)

// at makes an address of a text, local@domain.
func at(s string) api.Address {
	local, domain, _ := strings.Cut(s, "@")
	return api.Address{Local: local, Domain: domain}
}

func addresses(to ...string) []api.Address {
	var l []api.Address
	for _, s := range to {
		l = append(l, at(s))
	}
	return l
}

func mailOf(data string, to ...string) api.Mail {
	return api.Mail{From: at("me@here"), To: addresses(to...), Data: data}
}

// odd are texts that a file's form might stumble over.
var odd = []string{"", ":", "0:", "3:abc", "+0.", ".", "+", "\r\n", "\x00", "\xff\xfe", "é", "a:b", "-1:", "12", "/", strings.Repeat("x", 3000)}

func expect(t *testing.T, promise string, got api.Errno, want api.Errno) {
	t.Helper()
	if got != want {
		t.Fatalf("%s: answered %d, want %d", promise, got, want)
	}
}

func mustOpen(t *testing.T, d *disk.Disk) *Spool {
	t.Helper()
	s, e := Open(d)
	if e != api.OK || s == nil {
		t.Fatalf("F1: Open answered %v, %d", s, e)
	}
	return s
}

func mustPut(t *testing.T, s *Spool, m api.Mail) int {
	t.Helper()
	n, e := s.Put(m)
	expect(t, "F2: Put", e, api.OK)
	return n
}

// waiting is what a spool tells of a mail.
type waiting struct {
	mail api.Mail
	left []api.Address
}

// told is all that a spool tells, by numbers.
func told(t *testing.T, s *Spool) map[int]waiting {
	t.Helper()
	l := s.List()
	if !slices.IsSorted(l) || len(slices.Compact(slices.Clone(l))) != len(l) {
		t.Fatalf("F3: List answered %v", l)
	}
	all := make(map[int]waiting)
	for _, id := range l {
		m, ok := s.Mail(id)
		if !ok || len(s.Left(id)) == 0 {
			t.Fatalf("F3: of %d in the list: %v, %t, %v", id, m, ok, s.Left(id))
		}
		all[id] = waiting{m, s.Left(id)}
	}
	return all
}

func TestF1AnEmptyDiskIsAnEmptySpool(t *testing.T) {
	s := mustOpen(t, disk.New())
	if l := s.List(); l != nil {
		t.Errorf("F3: List answered %v", l)
	}
	if n := mustPut(t, s, mailOf("one", "x@far")); n < 1 {
		t.Errorf("F2: the number %d", n)
	}
}

func TestF1OtherFilesAreLeftAloneAndDoNoHarm(t *testing.T) {
	d := disktest.With("", "spool", "spoolmail/1", "Spool/mail/1", "spoo", "box/3:ann1", "spool\\new", " spool/new", "a/spool/mail/7")
	foreign := disktest.Files(d)
	s := mustOpen(t, d)
	a := mustPut(t, s, mailOf("one", "x@far", "y@far"))
	b := mustPut(t, s, mailOf("two", "x@far"))
	expect(t, "F2: Done", s.Done(a, at("x@far")), api.OK)
	expect(t, "F2: Done", s.Done(b, at("x@far")), api.OK)
	d.Stop(3)
	_, e := s.Put(mailOf("three", "x@far"))
	expect(t, "F2: Put", e, api.ErrDead)
	d.Crash(9, []int{9})
	if l := mustOpen(t, d).List(); !slices.Equal(l, []int{a}) {
		t.Errorf("F1: List answered %v, want %d alone", l, a)
	}
	others := slices.DeleteFunc(disktest.Files(d), func(f disktest.File) bool { return strings.HasPrefix(f.Name, "spool/") })
	if !slices.Equal(others, foreign) {
		t.Errorf("F1: the other files are %q, want %q", others, foreign)
	}
}

func TestF1OpenOnADiskThatHasStopped(t *testing.T) {
	empty, used := disk.New(), disk.New()
	mustPut(t, mustOpen(t, used), mailOf("one", "x@far"))
	for _, d := range []*disk.Disk{empty, used} {
		for n := 0; ; n++ {
			d.Stop(n)
			s, e := Open(d)
			if e == api.OK {
				break
			}
			if s != nil || e != api.ErrDead || n > 99 {
				t.Fatalf("F1: stopped at %d: %v, %d", n, s, e)
			}
		}
		d.Stop(0)
		if s, e := Open(d); s != nil || e != api.ErrDead {
			t.Errorf("F1: on a disk that has stopped: %v, %d", s, e)
		}
	}
}

func TestF2NumbersRise(t *testing.T) {
	d := disk.New()
	s := mustOpen(t, d)
	top := 0
	for i := range 60 {
		n := mustPut(t, s, mailOf("m", "x@far"))
		if n <= top {
			t.Fatalf("F2: the number %d behind %d", n, top)
		}
		top = n
		if i%2 == 0 {
			expect(t, "F2: Done", s.Done(n, at("x@far")), api.OK)
		}
		if i%3 == 0 {
			d.Crash(0, nil)
		}
		if i%4 == 0 {
			s = mustOpen(t, d)
		}
	}
}

func TestF2NumbersAreAboveThoseOfMailsThatAreGone(t *testing.T) {
	d := disk.New()
	s := mustOpen(t, d)
	top := 0
	for range 12 {
		top = mustPut(t, s, mailOf("m", "x@far"))
	}
	for _, id := range s.List() {
		expect(t, "F2: Done", s.Done(id, at("x@far")), api.OK)
	}
	for range 3 {
		d.Crash(0, nil)
		s = mustOpen(t, d)
		if l := s.List(); l != nil {
			t.Fatalf("F4: List answered %v, but all are gone", l)
		}
	}
	if n := mustPut(t, s, mailOf("m", "x@far")); n <= top {
		t.Errorf("F2: the number %d behind %d, which is gone", n, top)
	}
}

func TestF2AMailThatGoesNowhere(t *testing.T) {
	d := disk.New()
	s := mustOpen(t, d)
	mustPut(t, s, mailOf("one", "x@far"))
	was := disktest.Files(d)
	for _, m := range []api.Mail{{}, mailOf("two"), {To: []api.Address{}, Data: "x"}} {
		if n, e := s.Put(m); n != 0 || e != api.ErrForm {
			t.Errorf("F2: %v: %d, %d", m, n, e)
		}
	}
	if !slices.Equal(disktest.Files(d), was) || len(s.List()) != 1 {
		t.Error("F2: a mail that goes nowhere has changed something")
	}
	d.Stop(0)
	for range 2 {
		if n, e := s.Put(api.Mail{}); n != 0 || e != api.ErrForm {
			t.Errorf("F2: on a disk that has stopped: %d, %d", n, e)
		}
		if n, e := s.Put(mailOf("two", "x@far")); n != 0 || e != api.ErrDead {
			t.Errorf("F2: on a disk that has stopped: %d, %d", n, e)
		}
	}
}

func TestF2LeftIsEachOnceInOrder(t *testing.T) {
	s := mustOpen(t, disk.New())
	to := []string{"y@far", "x@far", "y@far", "X@far", "@", "x@far", "x@", "@far", "@", "a@b"}
	id := mustPut(t, s, mailOf("m", to...))
	want := addresses("y@far", "x@far", "X@far", "@", "x@", "@far", "a@b")
	if l := s.Left(id); !slices.Equal(l, want) {
		t.Fatalf("F2: Left answered %v", l)
	}
	if m, ok := s.Mail(id); !ok || !reflect.DeepEqual(m, mailOf("m", to...)) {
		t.Errorf("F3: Mail answered %v, %t", m, ok)
	}
	for _, i := range []int{3, 0, 4, 1, 1, 0, 0} {
		expect(t, "F2: Done", s.Done(id, want[i]), api.OK)
		expect(t, "F2: Done", s.Done(id, want[i]), api.ErrNone)
		want = slices.Delete(want, i, i+1)
		if l := s.Left(id); !slices.Equal(l, want) {
			t.Fatalf("F2: Left answered %v, want %v", l, want)
		}
	}
	if m, ok := s.Mail(id); ok || !reflect.DeepEqual(m, api.Mail{}) || s.Left(id) != nil || s.List() != nil {
		t.Errorf("F2: the mail is not gone: %v, %t", m, ok)
	}
}

func TestF2DoneOfNobodyWhoIsLeft(t *testing.T) {
	d := disk.New()
	s := mustOpen(t, d)
	id := mustPut(t, s, mailOf("m", "x@far", "y@far"))
	expect(t, "F2: Done", s.Done(id, at("x@far")), api.OK)
	was := disktest.Files(d)
	d.Stop(0)
	for _, a := range addresses("x@far", "Y@far", "y@", "@far", "@", "me@here", "y@far ") {
		expect(t, "F2: nobody is left", s.Done(id, a), api.ErrNone)
	}
	for _, n := range []int{0, -1, id - 1, id + 1, math.MaxInt, math.MinInt} {
		expect(t, "F2: no such mail", s.Done(n, at("y@far")), api.ErrNone)
	}
	if !slices.Equal(disktest.Files(d), was) || !slices.Equal(s.Left(id), addresses("y@far")) {
		t.Error("F2: a Done of nobody has changed something")
	}
	d.Stop(math.MaxInt)
	expect(t, "F2: Done", s.Done(id, at("y@far")), api.OK)
	expect(t, "F2: it is gone", s.Done(id, at("y@far")), api.ErrNone)
}

// stopped makes a spool whose call was answered by ErrDead behind n writes; it tells false if that was not so.
func stopped(t *testing.T, n int, call func(s *Spool, a int, b int) api.Errno) (*Spool, *disk.Disk, bool) {
	t.Helper()
	d := disk.New()
	s := mustOpen(t, d)
	a := mustPut(t, s, mailOf("one", "x@far", "y@far"))
	b := mustPut(t, s, mailOf("two", "x@far"))
	d.Stop(n)
	e := call(s, a, b)
	if e != api.OK && e != api.ErrDead {
		t.Fatalf("F2: answered %d", e)
	}
	return s, d, e == api.ErrDead
}

// calls are those that write.
var calls = []func(s *Spool, a int, b int) api.Errno{
	func(s *Spool, a int, b int) api.Errno {
		n, e := s.Put(mailOf("three", "x@far", "z@far"))
		if e != api.OK && n != 0 {
			return api.ErrRange
		}
		return e
	},
	func(s *Spool, a int, b int) api.Errno { return s.Done(a, at("x@far")) },
	func(s *Spool, a int, b int) api.Errno { return s.Done(b, at("x@far")) },
}

func TestF2BehindErrDeadNothingIsDone(t *testing.T) {
	for i, call := range calls {
		for n := range 50 {
			s, d, dead := stopped(t, n, call)
			if !dead {
				if n == 0 {
					t.Errorf("F2: call %d writes nothing", i)
				}
				break
			}
			for _, run := range []func(){func() { d.Stop(math.MaxInt) }, func() { d.Crash(0, nil) }} {
				run()
				was := disktest.Files(d)
				for range 2 {
					id, e := s.Put(mailOf("m", "x@far"))
					if id != 0 || e != api.ErrDead {
						t.Fatalf("F2: call %d, stopped at %d: then Put answered %d, %d", i, n, id, e)
					}
					for id := -1; id < 5; id++ {
						expect(t, "F2: Done behind an ErrDead", s.Done(id, at("x@far")), api.ErrDead)
					}
					_, e = s.Put(api.Mail{})
					expect(t, "F2: Put of a mail that goes nowhere", e, api.ErrForm)
				}
				if !slices.Equal(disktest.Files(d), was) {
					t.Fatalf("F2: call %d, stopped at %d: something was done behind it", i, n)
				}
			}
		}
	}
}

func TestF3ListRises(t *testing.T) {
	s := mustOpen(t, disk.New())
	var want []int
	for range 25 { // so that numbers have one digit, and two
		want = append(want, mustPut(t, s, mailOf("m", "x@far")))
	}
	if l := s.List(); !slices.Equal(l, want) {
		t.Fatalf("F3: List answered %v", l)
	}
	expect(t, "F2: Done", s.Done(want[7], at("x@far")), api.OK)
	want = slices.Delete(want, 7, 8)
	if l := s.List(); !slices.Equal(l, want) || len(told(t, s)) != 24 {
		t.Errorf("F3: List answered %v", l)
	}
}

func TestF3ThereIsNoSuchMail(t *testing.T) {
	s := mustOpen(t, disk.New())
	n := mustPut(t, s, mailOf("m", "x@far"))
	for _, id := range []int{0, -1, n - 1, n + 1, math.MaxInt, math.MinInt} {
		if m, ok := s.Mail(id); ok || !reflect.DeepEqual(m, api.Mail{}) || s.Left(id) != nil {
			t.Errorf("F3: of %d: %v, %t, %v", id, m, ok, s.Left(id))
		}
	}
}

func TestF3AnyBytes(t *testing.T) {
	d := disk.New()
	s := mustOpen(t, d)
	want := make(map[int]waiting)
	keep := func(m api.Mail, left ...api.Address) { want[mustPut(t, s, m)] = waiting{m, left} }
	for i, x := range odd {
		y := odd[(i+5)%len(odd)]
		a, b := api.Address{Local: x, Domain: y}, api.Address{Local: y + x, Domain: "b"}
		keep(api.Mail{From: a, To: []api.Address{b, a, b}, Data: x}, b, a)
		keep(api.Mail{To: []api.Address{a}, Data: y + x}, a)
		keep(api.Mail{To: []api.Address{{}}, Data: x}, api.Address{})
	}
	for range 2 {
		if got := told(t, s); !reflect.DeepEqual(got, want) {
			t.Fatalf("F3: the spool tells %.500s, want %.500s", fmt.Sprint(got), fmt.Sprint(want))
		}
		d.Crash(0, nil)
		s = mustOpen(t, d)
	}
	for id, w := range want {
		if len(w.left) == 2 {
			expect(t, "F2: Done", s.Done(id, w.left[0]), api.OK)
			want[id] = waiting{w.mail, w.left[1:]}
		}
	}
	d.Crash(0, nil)
	if got := told(t, mustOpen(t, d)); !reflect.DeepEqual(got, want) {
		t.Errorf("F4: the spool tells %.500s, want %.500s", fmt.Sprint(got), fmt.Sprint(want))
	}
}

func TestF3ManyAddresses(t *testing.T) {
	d := disk.New()
	s := mustOpen(t, d)
	var to []api.Address
	for i := range 1200 {
		to = append(to, api.Address{Local: strings.Repeat("i", i%7), Domain: strings.Repeat("j", i/7)})
	}
	id := mustPut(t, s, api.Mail{To: to})
	for i := len(to) - 1; i >= 0; i-- {
		if i%5 != 0 {
			expect(t, "F2: Done", s.Done(id, to[i]), api.OK)
			to = slices.Delete(to, i, i+1)
		}
	}
	d.Crash(0, nil)
	if l := mustOpen(t, d).Left(id); !slices.Equal(l, to) {
		t.Errorf("F4: %d are left, want %d", len(l), len(to))
	}
}

func TestG4ListsAreNotSharedOrKept(t *testing.T) {
	s := mustOpen(t, disk.New())
	m := mailOf("m", "x@far", "y@far", "x@far")
	kept := mailOf("m", "x@far", "y@far", "x@far")
	id := mustPut(t, s, m)
	if !reflect.DeepEqual(m, kept) {
		t.Fatalf("G4: Put made %v of its mail", m)
	}
	clear(m.To)
	for range 2 {
		got, _ := s.Mail(id)
		left, list := s.Left(id), s.List()
		if !reflect.DeepEqual(got, kept) || !slices.Equal(left, kept.To[:2]) || !slices.Equal(list, []int{id}) {
			t.Fatalf("G4: %v, %v, %v", got, left, list)
		}
		clear(got.To)
		clear(left)
		clear(list)
	}
}

func TestG3SpoolsOfTwoDisksShareNothing(t *testing.T) {
	s, other := mustOpen(t, disk.New()), mustOpen(t, disk.New())
	a := mustPut(t, s, mailOf("m", "x@far"))
	if b := mustPut(t, other, mailOf("n", "y@far")); a != b {
		t.Errorf("G3: the first numbers are %d and %d", a, b)
	}
	expect(t, "F2: Done", s.Done(a, at("x@far")), api.OK)
	if len(other.List()) != 1 {
		t.Error("G3: what is done in one spool is done in another")
	}
}
