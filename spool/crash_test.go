package spool

import (
	"fmt"
	"maps"
	"math/rand"
	"reflect"
	"slices"
	"testing"

	"post/api"
	"post/disk"
	"post/disktest"
)

// keeper asks a spool, and keeps what has to be there.
type keeper struct {
	t     *testing.T
	disk  *disk.Disk
	spool *Spool
	sure  map[int]waiting // what is there, if a call that was answered by ErrDead has done nothing
	other map[int]waiting // what is there, if it has done all: its mail has the number 0; nil, if there was none
	top   int             // above this is each new number
	name  string          // of what is tried
}

func newKeeper(t *testing.T) *keeper {
	d := disk.New()
	return &keeper{t: t, disk: d, spool: mustOpen(t, d), sure: make(map[int]waiting)}
}

func (k *keeper) fail(promise string, told ...any) {
	k.t.Helper()
	k.t.Fatalf("%s: %s: %.900s", promise, k.name, fmt.Sprintln(told...))
}

func (k *keeper) put(m api.Mail) api.Errno {
	k.t.Helper()
	var left []api.Address
	for _, a := range m.To {
		if !slices.Contains(left, a) {
			left = append(left, a)
		}
	}
	n, e := k.spool.Put(m)
	switch {
	case e == api.OK && n > k.top:
		k.top = n
		k.sure[n] = waiting{m, left}
	case e == api.ErrDead && n == 0:
		k.other = maps.Clone(k.sure)
		k.other[0] = waiting{m, left}
	default:
		k.fail("F2", "Put answered", n, e, "the last number was", k.top)
	}
	return e
}

func (k *keeper) done(id int, to api.Address) api.Errno {
	k.t.Helper()
	w := k.sure[id]
	next := maps.Clone(k.sure)
	next[id] = waiting{w.mail, slices.DeleteFunc(slices.Clone(w.left), func(a api.Address) bool { return a == to })}
	if len(next[id].left) == 0 {
		delete(next, id)
	}
	e := k.spool.Done(id, to)
	switch {
	case !slices.Contains(w.left, to):
		if e != api.ErrNone {
			k.fail("F2", "Done of nobody answered", e)
		}
	case e == api.OK:
		k.sure = next
	case e == api.ErrDead:
		k.other = next
	default:
		k.fail("F2", "Done answered", e)
	}
	return e
}

// open opens a spool, and holds what it tells against what has to be there.
func (k *keeper) open() api.Errno {
	k.t.Helper()
	s, e := Open(k.disk)
	if e == api.ErrDead && s == nil {
		return e
	}
	if e != api.OK {
		k.fail("F1", "Open answered", s, e)
	}
	found := told(k.t, s)
	known, top := make(map[int]waiting), k.top
	for id, w := range found {
		k.top = max(k.top, id)
		if id > top {
			id = 0
		}
		known[id] = w
	}
	if len(known) != len(found) || !reflect.DeepEqual(known, k.sure) && (k.other == nil || !reflect.DeepEqual(known, k.other)) {
		k.fail("F4", "found", found, "want", k.sure, "or", k.other)
	}
	k.spool, k.sure, k.other = s, found, nil
	return e
}

func (k *keeper) mustOpen() {
	k.t.Helper()
	if e := k.open(); e != api.OK {
		k.fail("F1", "Open answered", e)
	}
}

// filled is a spool in which mails have waited and gone: 1 goes to x, y and z, of which y is left no more, 2 to w, 3 is gone.
func filled(t *testing.T) *keeper {
	k := newKeeper(t)
	k.put(mailOf("one", "x@far", "y@far", "z@far", "x@far"))
	k.put(mailOf("two\r\n", "w@far"))
	k.done(1, at("y@far"))
	k.put(mailOf("gone", "x@far"))
	k.done(3, at("x@far"))
	if len(k.sure) != 2 || k.top != 3 {
		t.Fatalf("F2: %v, %d", k.sure, k.top)
	}
	return k
}

// deeds are the calls at which the disk stops.
var deeds = []struct {
	name string
	call func(k *keeper) api.Errno
}{
	{"Put", func(k *keeper) api.Errno { return k.put(mailOf("new\r\n", "x@far", "y@far", "x@far")) }},
	{"Put of nothing", func(k *keeper) api.Errno { return k.put(api.Mail{To: []api.Address{{}}}) }},
	{"Done", func(k *keeper) api.Errno { return k.done(1, at("z@far")) }},
	{"the last Done", func(k *keeper) api.Errno { return k.done(2, at("w@far")) }},
	{"Open", func(k *keeper) api.Errno { return k.open() }},
}

// survives crashes, and holds what is there then against what was found; numbers go on.
func (k *keeper) survives(run func(*disk.Disk)) {
	k.t.Helper()
	run(k.disk)
	k.mustOpen()
	if e := k.put(mailOf("behind", "x@far")); e != api.OK {
		k.fail("F2", "Put answered", e)
	}
	run(k.disk)
	k.mustOpen()
}

func TestF4StopAtEachCall(t *testing.T) {
	for _, deed := range deeds {
		for w, run := range disktest.Again() {
			for n, e := 0, api.ErrDead; e != api.OK && n < 50; n++ {
				k := filled(t)
				k.name = fmt.Sprintf("%s, stopped at %d, run again by way %d", deed.name, n, w)
				k.disk.Stop(n)
				e = deed.call(k)
				run(k.disk)
				k.mustOpen()
				k.survives(disktest.Again()[1])
			}
		}
	}
}

func TestF4StopInTheOpenBehindAStop(t *testing.T) {
	ways := disktest.Again()
	for _, deed := range deeds {
		for w := range ways {
			for n, e := 0, api.ErrDead; e != api.OK && n < 50; n++ {
				for m, f := 0, api.ErrDead; f != api.OK && m < 50; m++ {
					for v := (n + m + w) % 7; v < len(ways); v += 7 {
						k := filled(t)
						k.name = fmt.Sprintf("%s, stopped at %d, way %d, Open stopped at %d, way %d", deed.name, n, w, m, v)
						k.disk.Stop(n)
						e = deed.call(k)
						ways[w](k.disk)
						k.disk.Stop(m)
						f = k.open()
						ways[v](k.disk)
						k.mustOpen()
						k.survives(ways[1])
					}
				}
			}
		}
	}
}

func TestF4WhatOpenHasFoundSurvives(t *testing.T) {
	for _, deed := range deeds {
		for n, e := 0, api.ErrDead; e != api.OK && n < 50; n++ {
			for w, run := range disktest.Again() {
				k := filled(t)
				k.name = fmt.Sprintf("%s, stopped at %d, and no crash ahead of Open, then way %d", deed.name, n, w)
				k.disk.Stop(n)
				e = deed.call(k)
				disktest.Again()[0](k.disk)
				k.mustOpen()
				k.survives(run)
			}
		}
	}
}

func TestF4ASpoolGoesOnBehindACrashThatLosesNothing(t *testing.T) {
	for _, run := range disktest.Again() {
		k := filled(t)
		k.name = "one spool, with crashes between its calls"
		for range 3 {
			run(k.disk)
			k.put(mailOf("new", "x@far", "y@far"))
			run(k.disk)
			k.done(k.top, at("x@far"))
			run(k.disk)
			k.done(k.top, at("y@far"))
			run(k.disk)
			if got := told(t, k.spool); !reflect.DeepEqual(got, k.sure) {
				k.fail("F3", got, "want", k.sure)
			}
		}
		k.mustOpen()
	}
}

// step asks for something, whatever the dice say.
func (k *keeper) step(r *rand.Rand) api.Errno {
	if r.Intn(4) == 0 {
		k.disk.Stop(r.Intn(9))
	}
	ids := slices.Sorted(maps.Keys(k.sure))
	if len(ids) == 0 || r.Intn(3) == 0 {
		m := api.Mail{From: at("me@here"), Data: odd[r.Intn(len(odd))]}
		for range 1 + r.Intn(13) {
			m.To = append(m.To, api.Address{Local: odd[r.Intn(len(odd))], Domain: "far"})
		}
		return k.put(m)
	}
	id := ids[r.Intn(len(ids))]
	if r.Intn(9) == 0 {
		return k.done(id, at("nobody@far"))
	}
	left := k.sure[id].left
	return k.done(id, left[r.Intn(len(left))])
}

func TestF4Random(t *testing.T) {
	ways := disktest.Again()
	for seed := range 300 {
		r := rand.New(rand.NewSource(int64(seed)))
		k := newKeeper(t)
		k.name = fmt.Sprint("seed ", seed)
		for range 60 {
			if k.step(r) != api.ErrDead && r.Intn(8) != 0 {
				continue
			}
			for e := api.ErrDead; e != api.OK; {
				if r.Intn(3) == 0 {
					k.disk.Crash(r.Intn(4), []int{r.Intn(5), r.Intn(5), r.Intn(5)})
				} else {
					ways[r.Intn(len(ways))](k.disk)
				}
				if r.Intn(2) == 0 {
					k.disk.Stop(r.Intn(12))
				}
				e = k.open()
			}
			ways[0](k.disk)
		}
	}
}

func TestF4ADoneThatACrashCuts(t *testing.T) {
	var to []string
	for c := range 113 { // so that places have one digit, two and three
		to = append(to, fmt.Sprint("x", c, "@far"))
	}
	for _, place := range []int{0, 1, 9, 10, 11, 12, 99, 100, 101, 112} {
		for tail := range 8 {
			k := newKeeper(t)
			k.name = fmt.Sprintf("Done of the place %d, cut behind %d bytes", place, tail)
			k.put(mailOf("m", to...))
			k.disk.Stop(1)
			if e := k.done(k.top, at(to[place])); e != api.ErrDead {
				k.fail("F2", "Done answered", e)
			}
			k.disk.Crash(0, []int{tail})
			k.mustOpen()
			for _, other := range []int{3, 40, 111} { // behind what is left of it
				if e := k.done(k.top, at(to[other])); e != api.OK {
					k.fail("F2", "Done answered", e)
				}
				k.disk.Crash(0, nil)
				k.mustOpen()
			}
		}
	}
}
