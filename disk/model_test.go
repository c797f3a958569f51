package disk_test

import (
	"math/rand"
	"slices"
	"strings"
	"testing"

	"kerbside/api"
	"kerbside/disk"
)

type place struct{ file, number int }

// model is the chapter to the letter, without regard to speed: strings, and a list that is searched.
type model struct {
	files, durable [16]string
	pending        []place
	lost, armed    int
	keep           []int
	down           bool
}

func putString(s string, at int, b string) string {
	if b == "" {
		return s
	}
	if len(s) < at {
		s += zeros(at - len(s))
	}
	return s[:at] + b + s[min(at+len(b), len(s)):]
}

func (m *model) copied() *model {
	c := *m
	c.pending = slices.Clone(m.pending)
	return &c
}

func (m *model) crash(keep []int) {
	for i, p := range m.pending {
		if len(keep) == 0 || keep[i%len(keep)]%2 == 0 {
			continue
		}
		s := m.files[p.file][p.number*64:]
		m.durable[p.file] = putString(m.durable[p.file], p.number*64, s[:min(64, len(s))])
	}
	m.files = m.durable
	m.pending, m.armed, m.down = nil, 0, true
}

// settle makes a string a file and its durable part.
func (m *model) settle(f int, s string) {
	m.files[f], m.durable[f] = s, s
	m.pending = slices.DeleteFunc(m.pending, func(p place) bool { return p.file == f })
}

func (m *model) write(f, at int, s string) api.Errno {
	if f < 0 || f > 15 || at < 0 {
		return api.ErrArg
	}
	if at+len(s) > maxBytes {
		return api.ErrFull
	}
	m.files[f] = putString(m.files[f], at, s)
	for i := range s {
		if p := (place{f, (at + i) / 64}); !slices.Contains(m.pending, p) {
			m.pending = append(m.pending, p)
		}
	}
	return api.OK
}

func (m *model) sync(f int) api.Errno {
	if f < 0 || f > 15 {
		return api.ErrArg
	}
	if m.lost > 0 {
		m.lost--
		return api.ErrLost
	}
	m.settle(f, m.files[f])
	return api.OK
}

func (m *model) truncate(f, size int) api.Errno {
	if f < 0 || f > 15 || size < 0 || size > len(m.files[f]) {
		return api.ErrArg
	}
	m.settle(f, m.files[f][:size])
	return api.OK
}

// change performs a call that Arm counts.
func (m *model) change(isWrite bool, call func() api.Errno) api.Errno {
	if m.down {
		return api.ErrDown
	}
	if m.armed > 1 {
		m.armed--
	} else if m.armed == 1 {
		if isWrite {
			call() // changes nothing where it fails
		}
		m.crash(m.keep)
		return api.ErrDown
	}
	return call()
}

// pair is a disk with its model.
type pair struct {
	d *disk.Disk
	m *model
}

func someKeep(r *rand.Rand) []int {
	keep := make([]int, r.Intn(5))
	for i := range keep {
		keep[i] = r.Intn(7) - 3
	}
	return keep
}

func someBytes(r *rand.Rand) string {
	n := r.Intn(12)
	if r.Intn(4) == 0 {
		n = r.Intn(300)
	}
	b := make([]byte, n)
	for i := range b {
		b[i] = "abcdefgh\x00"[r.Intn(9)]
	}
	return string(b)
}

func someFile(r *rand.Rand) int { return []int{-1, 0, 0, 0, 0, 1, 1, 1, 15, 16}[r.Intn(10)] }

func someOffset(r *rand.Rand) int {
	switch r.Intn(9) {
	case 0:
		return -1
	case 1:
		return maxBytes + r.Intn(2)
	case 2, 3, 4:
		return r.Intn(20)
	case 5, 6:
		return 60 + r.Intn(8)
	}
	return r.Intn(400)
}

// step performs one random call on both, and reports whether they returned the same.
func (p *pair) step(r *rand.Rand) bool {
	f := someFile(r)
	d, m := p.d, p.m
	switch r.Intn(12) {
	case 0:
		n := r.Intn(5) - 1
		d.Lose(n)
		m.lost = max(n, 0)
	case 1:
		n, keep := r.Intn(8)-1, someKeep(r)
		d.Arm(n, keep)
		m.armed, m.keep = max(n, 0), slices.Clone(keep)
		clear(keep)
	case 2:
		if keep := someKeep(r); r.Intn(3) == 0 {
			d.Crash(keep)
			if !m.down {
				m.crash(keep)
			}
		}
	case 3:
		d.Start()
		m.down = false
	case 4, 5:
		return d.Sync(f) == m.change(false, func() api.Errno { return m.sync(f) })
	case 6:
		size := r.Intn(3) - 1
		if len(m.files[max(f, 0)%16]) > 0 && r.Intn(4) > 0 {
			size = r.Intn(len(m.files[max(f, 0)%16]) + 2)
		}
		return d.Truncate(f, size) == m.change(false, func() api.Errno { return m.truncate(f, size) })
	default:
		at, s := someOffset(r), someBytes(r)
		return d.Write(f, at, s) == m.change(true, func() api.Errno { return m.write(f, at, s) })
	}
	return true
}

// same reports whether a disk is in the state of its model, as far as one sees without a crash.
func same(t *testing.T, d *disk.Disk, m *model) bool {
	t.Helper()
	if d.Down() != m.down {
		return false
	}
	for f, want := range m.files {
		if d.Size(f) != len(want) {
			return false
		}
		if got, e := d.Read(f, 0, len(want)+1); m.down && (got != "" || e != api.ErrDown) || !m.down && (got != want || e != api.OK) {
			return false
		}
	}
	return true
}

// TestModel compares the disk with the model: P2.1 to P2.4.
func TestModel(t *testing.T) {
	for seed := range int64(400) {
		r := rand.New(rand.NewSource(seed))
		p := pair{d: disk.New(), m: &model{}}
		for i := range 60 {
			if !p.step(r) {
				t.Fatalf("seed %d, step %d: another result", seed, i)
			}
			if !same(t, p.d, p.m) {
				t.Fatalf("seed %d, step %d: another state", seed, i)
			}
			c, m, keep := p.d.Copy(), p.m.copied(), someKeep(r)
			c.Crash(keep)
			c.Start()
			if !m.down {
				m.crash(keep)
			}
			m.down = false
			if !same(t, c, m) {
				t.Fatalf("seed %d, step %d: another state after a crash with %d", seed, i, keep)
			}
			if r.Intn(20) == 0 {
				p.d = p.d.Copy()
			}
		}
	}
}

// P2.5

// sectorsOf returns the sectors of a string of at least that many bytes: bytes 0 follow its end.
func sectorsOf(s string, size int) []string {
	s += zeros(max(size-len(s), 0))
	var l []string
	for i := 0; i < size; i += 64 {
		l = append(l, s[i:min(i+64, size)])
	}
	return l
}

// checkTorn checks what a crash made of a file with a durable part.
func checkTorn(t *testing.T, seed int64, after, file, hard string) {
	t.Helper()
	if len(after) < len(hard) || len(after) > len(file) {
		t.Errorf("seed %d: %d bytes after the crash, %d before, %d durable", seed, len(after), len(file), len(hard))
		return
	}
	old, now := sectorsOf(hard, len(after)), sectorsOf(file, len(after))
	for i, s := range sectorsOf(after, len(after)) {
		if s != old[i] && s != now[i] {
			t.Errorf("seed %d: sector %d is %q, before the crash %q, durable %q", seed, i, s, now[i], old[i])
		}
	}
}

func TestSectorsSurviveWhole(t *testing.T) {
	for seed := range int64(300) {
		r := rand.New(rand.NewSource(seed))
		p := pair{d: disk.New(), m: &model{}}
		for range 40 {
			p.step(r)
		}
		p.d.Arm(0, nil)
		p.d.Start()
		c := p.d.Copy()
		c.Crash(someKeep(r))
		c.Start()
		for f := range 16 {
			checkTorn(t, seed, read(t, c, f), read(t, p.d, f), durable(t, p.d, f))
		}
	}
}

// TestEachSectorAlone tries all choices of the sectors that survive.
func TestEachSectorAlone(t *testing.T) {
	old, now := strings.Repeat("o", 150), strings.Repeat("n", 290)
	for choice := range 32 {
		d := filled(t, old)
		gives(t, "Write", d.Write(3, 0, now), api.OK)
		keep := make([]int, 5)
		want := old
		for i := range keep {
			keep[i] = choice >> i & 1
			if keep[i] == 1 {
				want = putString(want, i*64, now[i*64:min(i*64+64, len(now))])
			}
		}
		d.Crash(keep)
		d.Start()
		holds(t, "Crash", d, 3, want)
	}
}

func TestTruncateIsAtomic(t *testing.T) {
	for size := range 201 {
		for n := range 3 {
			d := filled(t, strings.Repeat("a", 200))
			d.Arm(n, []int{size % 2})
			e := d.Truncate(3, size)
			d.Crash([]int{size % 3})
			d.Start()
			want := size
			if n == 1 {
				want = 200
			}
			if (e == api.ErrDown) != (n == 1) || read(t, d, 3) != strings.Repeat("a", want) {
				t.Errorf("Truncate to %d with a crash at %d: error %d, %d bytes", size, n, e, d.Size(3))
			}
		}
	}
}

// P2.6

func ints(s string) []int {
	l := make([]int, len(s))
	for i := range l {
		l[i] = int(s[i])
	}
	return l
}

func TestSyncedBytesStay(t *testing.T) {
	for seed := range int64(200) {
		r := rand.New(rand.NewSource(seed))
		d := disk.New()
		var known []int // the bytes of file 0 that were synced, and -1 for those that were written since
		for range 50 {
			switch at, s := r.Intn(300), someBytes(r); r.Intn(6) {
			case 0:
				gives(t, "Sync", d.Sync(0), api.OK)
				known = ints(read(t, d, 0))
			case 1:
				gives(t, "Truncate", d.Truncate(0, r.Intn(d.Size(0)+1)), api.OK)
				known = ints(read(t, d, 0))
			case 2:
				gives(t, "Write", d.Write(1, at, s), api.OK)
			default:
				gives(t, "Write", d.Write(0, at, s), api.OK)
				for i := range s {
					if at+i < len(known) {
						known[at+i] = -1
					}
				}
			}
			c := d.Copy()
			c.Crash(someKeep(r))
			c.Start()
			s := read(t, c, 0)
			for i, b := range known {
				if b >= 0 && (i >= len(s) || int(s[i]) != b) {
					t.Fatalf("seed %d: byte %d was synced, and is lost", seed, i)
				}
			}
		}
	}
}

func TestSyncedNeighboursStay(t *testing.T) {
	for _, keep := range [][]int{nil, {0}, {1}, {1, 0}, {0, 1}} {
		for at := range 130 {
			d := filled(t, strings.Repeat("a", 130))
			gives(t, "Write", d.Write(3, at, "X"), api.OK)
			gives(t, "Write", d.Write(3, 150, "Y"), api.OK)
			d.Crash(keep)
			d.Start()
			s := read(t, d, 3)
			if len(s) < 130 || s[:at] != strings.Repeat("a", at) || s[at+1:130] != strings.Repeat("a", 129-at) {
				t.Errorf("keep %d: a byte beside %d was touched: %q", keep, at, s)
			}
		}
	}
}
