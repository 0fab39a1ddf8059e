package work_test

import (
	"bytes"
	"slices"
	"testing"

	"rayhouse/api"
	"rayhouse/film"
	"rayhouse/work"
)

// W3

// onDisk: what films are on a disk, by a second working.
func onDisk(films ...api.Film) (disk []byte) {
	for _, f := range films {
		disk = append(disk, framed(packed(f))...)
	}
	return disk
}

// framed: bytes, and ahead of them how many they are.
func framed(b []byte) []byte {
	return append(told(len(b), 4), b...)
}

// holdStore: a store that has kept just these films.
func holdStore(t *testing.T, what string, s *work.Store, films ...api.Film) {
	t.Helper()
	if got, want := s.Bytes(), onDisk(films...); !bytes.Equal(got, want) {
		t.Errorf("%s: % x, not % x", what, got, want)
	}
}

func keep(t *testing.T, s *work.Store, films ...api.Film) {
	t.Helper()
	for _, f := range films {
		if e := s.Keep(f); e != api.OK {
			t.Fatalf("Keep of %v: %d", f, e)
		}
	}
}

// holdWake: of a disk just these films are woken; what is kept behind that stands behind them.
func holdWake(t *testing.T, what string, disk []byte, films ...api.Film) {
	t.Helper()
	before := slices.Clone(disk)
	s, last, ok := work.Wake(disk)
	if s == nil || ok != (len(films) > 0) {
		t.Fatalf("%s: %v, %v", what, s, ok)
	}
	if !ok && !empty(last) || ok && !same(last, films[len(films)-1]) {
		t.Errorf("%s: the last one: %v", what, last)
	}
	holdStore(t, what, s, films...)
	more := nought(1, 2)
	keep(t, s, more)
	holdStore(t, what+", one more", s, slices.Concat(films, []api.Film{more})...)
	if !bytes.Equal(disk, before) {
		t.Errorf("%s: the disk is written into", what)
	}
}

func (d *die) films(n int) (films []api.Film) {
	for range n {
		films = append(films, d.drawn(1+d.n(3), 1+d.n(3)))
	}
	return films
}

func TestStore(t *testing.T) {
	d := die(21)
	for n := range 6 {
		var s work.Store
		films := d.films(n)
		holdStore(t, "a new one", &s)
		for i := range films {
			keep(t, &s, films[i])
			holdStore(t, "kept", &s, films[:i+1]...)
		}
		holdStore(t, "asked again", &s, films...)
		holdWake(t, "woken", s.Bytes(), films...)
	}
	var s work.Store
	great := d.drawn(api.MaxSide, api.MaxSide)
	keep(t, &s, great, nought(1, 1), great, great)
	holdWake(t, "great ones", s.Bytes(), great, nought(1, 1), great, great)
}

func TestStoreOfKnownBytes(t *testing.T) {
	var s work.Store
	keep(t, &s, nought(1, 1))
	want := slices.Concat([]byte{0, 0, 0, 31, 'R', 'H', 'F', '1', 1, 1}, make([]byte, 21), []byte{0x47, 0x96, 0x52, 0xe0})
	if got := s.Bytes(); !bytes.Equal(got, want) {
		t.Errorf("% x, not % x", got, want)
	}
	keep(t, &s, nought(4, 4))
	if got := s.Bytes()[35:39]; !bytes.Equal(got, []byte{0, 0, 1, 90}) {
		t.Errorf("% x", got)
	}
	keep(t, &s, nought(64, 64))
	if got := s.Bytes()[385:389]; !bytes.Equal(got, []byte{0, 1, 0x50, 10}) {
		t.Errorf("% x", got)
	}
}

func TestKeepRefuses(t *testing.T) {
	d := die(22)
	var s work.Store
	films := d.films(2)
	for _, f := range refused() {
		if e := s.Keep(f); e != film.May(f) || e == api.OK {
			t.Errorf("Keep of %v: %d, not %d", f, e, film.May(f))
		}
	}
	holdStore(t, "nothing but refused ones", &s)
	keep(t, &s, films...)
	for _, f := range refused() {
		if e := s.Keep(f); e != film.May(f) {
			t.Errorf("Keep of %v: %d, not %d", f, e, film.May(f))
		}
		holdStore(t, "refused", &s, films...)
	}
}

// Woken from every cut: what was kept whole is there; and kept on from there all is as if nothing had been cut off.
func TestWakeFromEveryCut(t *testing.T) {
	d := die(23)
	for _, n := range []int{0, 1, 2, 4} {
		films := d.films(n)
		disk := onDisk(films...)
		for cut := range len(disk) + 1 {
			whole := 0
			for whole < n && len(onDisk(films[:whole+1]...)) <= cut {
				whole++
			}
			holdWake(t, "cut", disk[:cut], films[:whole]...)
			s, _, _ := work.Wake(disk[:cut])
			keep(t, s, films[whole:]...)
			if !bytes.Equal(s.Bytes(), disk) {
				t.Fatalf("cut at %d, and kept on: % x, not % x", cut, s.Bytes(), disk)
			}
		}
	}
}

// Each byte of a disk turned: what stands ahead of the film in which it is is there, nothing else.
func TestWakeWithEachByteTurned(t *testing.T) {
	d := die(24)
	films := d.films(3)
	disk := onDisk(films...)
	for i := range disk {
		whole := 0
		for len(onDisk(films[:whole+1]...)) <= i {
			whole++
		}
		for _, turn := range []byte{1, 2, 128, 255, byte(1 + d.n(255))} {
			turned := slices.Clone(disk)
			turned[i] ^= turn
			holdWake(t, "turned", turned, films[:whole]...)
		}
	}
}

func TestWakeOfOtherDisks(t *testing.T) {
	d := die(25)
	f, g, h := d.drawn(2, 1), d.drawn(1, 3), d.drawn(2, 2)
	b := packed(g)
	wrong := copied(g)
	wrong.Shots[2] = mostShots + 1
	checked := slices.Clone(b)
	checked[len(b)-1] ^= 1
	with := func(length int, b []byte) []byte {
		return append(told(length, 4), b...)
	}
	for what, middle := range map[string][]byte{
		"a length of 0":                            with(0, b),
		"a length of 0, nothing":                   with(0, nil),
		"a length of 5":                            with(5, b),
		"a length that is less":                    with(len(b)-1, b),
		"a length that is more":                    with(len(b)+1, b),
		"a length as of both behind":               with(len(b)+4+len(packed(h)), b),
		"a length beyond the disk":                 with(1<<20, b),
		"a length of 2 to the 31":                  with(1<<31, b),
		"the greatest length":                      with(1<<32-1, b),
		"one byte more, and a length that fits it": framed(append(slices.Clone(b), 0)),
		"one byte less, and a length that fits it": framed(b[:len(b)-1]),
		"a wrong sum":                              framed(checked),
		"a number that may not be":                 framed(packed(wrong)),
		"sides that may not be":                    framed(packed(nought(0, 1))),
		"another beginning":                        framed(sealed(append([]byte("RHF2"), b[4:len(b)-4]...))),
		"no length at all":                         b,
		"a length with the end first":              append([]byte{byte(len(b)), 0, 0, 0}, b...),
	} {
		disk := slices.Concat(onDisk(f), middle, onDisk(h))
		holdWake(t, what, disk, f)
		holdWake(t, what+", first", slices.Concat(middle, onDisk(h)))
		holdWake(t, what+", behind two", slices.Concat(onDisk(f, h), middle), f, h)
	}
	holdWake(t, "nothing", nil)
	holdWake(t, "an empty one", []byte{})
	holdWake(t, "noughts", make([]byte, 100))
	holdWake(t, "just behind a film", onDisk(f, g, h), f, g, h)
	holdWake(t, "a few bytes more", append(onDisk(f, g), 0, 0, 0), f, g)
}

// What is saved through a crash: parts that were kept whole are merged with what is shot again.
func TestACrashBetween(t *testing.T) {
	s := parsed(t, session)
	want := shot(t, s, 4, 3, 0, 4, 2, 3, 2)
	var store work.Store
	sum := nought(4, 3)
	for k := range 3 {
		sum, _ = film.Merge(sum, shot(t, s, 4, 3, k, k+1, 2, 1+k, 1+k))
		keep(t, &store, sum)
	}
	disk := store.Bytes()
	for cut := 0; cut <= len(disk); cut += 13 {
		woken, last, ok := work.Wake(disk[:cut])
		done := 0
		if ok {
			done = last.Shots[0]
		} else {
			last = nought(4, 3)
		}
		got, e := film.Merge(last, shot(t, s, 4, 3, done, 4, 2, 8, 1))
		if e != api.OK || !same(got, want) {
			t.Fatalf("cut at %d, %d shots are there: %v, %d, not %v", cut, done, got, e, want)
		}
		keep(t, woken, got)
		if _, again, ok := work.Wake(woken.Bytes()); !ok || !same(again, want) {
			t.Fatalf("cut at %d, and woken again: %v, %v", cut, again, ok)
		}
	}
}

// X2

func TestStoresAreFresh(t *testing.T) {
	d := die(26)
	films := d.films(3)
	kept := []api.Film{copied(films[0]), copied(films[1]), copied(films[2])}
	var s work.Store
	keep(t, &s, films[0], films[1])
	early := s.Bytes()
	was := slices.Clone(early)
	wipe(films[0].Light)
	wipe(films[1].Shots)
	holdStore(t, "films are written over", &s, kept[:2]...)
	keep(t, &s, films[2])
	if !bytes.Equal(early, was) {
		t.Error("bytes change with what is kept later")
	}
	wipeBytes(early)
	wipeBytes(s.Bytes())
	holdStore(t, "bytes are written over", &s, kept...)

	// A store that is woken of a piece of a disk doesn't write behind it.
	disk := s.Bytes()
	all := slices.Clone(disk)
	woken, last, _ := work.Wake(disk[:len(onDisk(kept[0]))])
	other, _, _ := work.Wake(disk)
	keep(t, woken, kept[2])
	if !bytes.Equal(disk, all) {
		t.Error("Keep wrote behind a piece of the disk")
	}
	wipe(last.Light)
	if !slices.Equal(last.Shots, kept[0].Shots) {
		t.Error("the shots lie where the light has room")
	}
	wipe(last.Shots)
	wipeBytes(disk)
	holdStore(t, "a disk is written over", woken, kept[0], kept[2])
	holdStore(t, "the other one", other, kept...)
	_, last, _ = work.Wake(all)
	wipeBytes(all)
	if !same(last, kept[2]) {
		t.Error("the last film changes with the disk")
	}
}

// No store: even so nothing panics.
func TestNoStore(t *testing.T) {
	var s *work.Store
	if e := s.Keep(nought(1, 1)); e != api.ErrState {
		t.Errorf("Keep: %d", e)
	}
	if e := s.Keep(api.Film{}); e != api.ErrLimit {
		t.Errorf("Keep of a film that may not be: %d", e)
	}
	if b := s.Bytes(); len(b) != 0 {
		t.Errorf("Bytes: %v", b)
	}
}
