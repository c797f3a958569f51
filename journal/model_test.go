package journal_test

import (
	"math/rand"
	"slices"
	"strconv"
	"strings"
	"testing"

	"kerbside/api"
	"kerbside/disk"
	"kerbside/journal"
)

// recordsOf is the definition, without a reader: a record is what lies between a number of bytes and what has to follow it.
func recordsOf(s string) []string {
	var l []string
	for {
		digits, rest, _ := strings.Cut(s, ":")
		n, err := strconv.Atoi(digits)
		if err != nil || n < 0 || n > min(len(rest), 20000) || !strings.HasPrefix(s, form(rest[:n])) {
			return l
		}
		l = append(l, rest[:n])
		s = s[len(form(rest[:n])):]
	}
}

// model is the chapter to the letter, on a disk of its own.
type model struct {
	d      *disk.Disk
	file   int
	list   []string
	broken bool
}

func openModel(d *disk.Disk, file int) (*model, api.Errno) {
	if e := d.Sync(file); e != api.OK {
		return nil, e
	}
	s, e := d.Read(file, 0, d.Size(file))
	if e != api.OK {
		return nil, e
	}
	m := &model{d: d, file: file, list: recordsOf(s)}
	if size := len(forms(m.list...)); len(s) > size {
		if e := d.Truncate(file, size); e != api.OK {
			return nil, e
		}
	}
	return m, api.OK
}

func (m *model) append(record string) api.Errno {
	size := len(forms(m.list...))
	switch {
	case m.broken:
		return api.ErrState
	case len(record) > 20000:
		return api.ErrRange
	case size+len(form(record)) > 1048576:
		return api.ErrFull
	}
	if e := m.d.Write(m.file, size, form(record)); e != api.OK {
		m.broken = true
		return e
	}
	m.list = append(m.list, record)
	return api.OK
}

func (m *model) sync() api.Errno {
	if m.broken {
		return api.ErrState
	}
	e := m.d.Sync(m.file)
	m.broken = e != api.OK
	return e
}

func someKeep(r *rand.Rand) []int {
	keep := make([]int, r.Intn(7))
	for i := range keep {
		keep[i] = r.Intn(2)
	}
	return keep
}

// someRecord returns a record with at most 4000 bytes, many of them 0.
func someRecord(r *rand.Rand) string {
	b := make([]byte, []int{0, 1, 5, 20, 64, 90, 200, 300, 4000}[r.Intn(9)])
	for i := range b {
		b[i] = "\x00\x00,:;019\xff"[r.Intn(9)]
	}
	return string(b)
}

// pair is a journal with its model, each on a disk of its own.
type pair struct {
	d, e *disk.Disk
	j    *journal.Journal
	m    *model
}

// open opens both, and reports whether both or none succeeded.
func (p *pair) open() bool {
	j, e := journal.Open(p.d, 3)
	m, f := openModel(p.e, 3)
	p.j, p.m = j, m
	return e == f && (j == nil) == (m == nil)
}

// step performs a random call on both, and reports whether they returned the same.
func (p *pair) step(r *rand.Rand) bool {
	switch r.Intn(14) {
	case 0:
		n := r.Intn(3)
		p.d.Lose(n)
		p.e.Lose(n)
	case 1:
		n, keep := r.Intn(8), someKeep(r)
		p.d.Arm(n, keep)
		p.e.Arm(n, keep)
	case 2:
		return p.restart(r)
	case 3, 4:
		return p.open()
	}
	if p.j == nil {
		return p.restart(r)
	}
	switch r.Intn(4) {
	case 0:
		return p.j.Sync() == p.m.sync()
	case 1:
		if s := strings.Repeat("x", 19998+r.Intn(5)); r.Intn(9) == 0 {
			return p.j.Append(s) == p.m.append(s)
		}
	}
	s := someRecord(r)
	return p.j.Append(s) == p.m.append(s)
}

// restart crashes both, starts them, perhaps with something after the records, and opens them.
func (p *pair) restart(r *rand.Rand) bool {
	keep := someKeep(r)
	noise := []string{"", "", "\x00", "1:a", "1:a,97;", "1:a,98;"}[r.Intn(6)]
	for _, d := range []*disk.Disk{p.d, p.e} {
		d.Crash(keep)
		d.Start()
		d.Write(3, d.Size(3), noise)
	}
	return p.open()
}

// same reports whether both lists and both files are the same, also after a crash.
func (p *pair) same(r *rand.Rand) bool {
	if p.j != nil && (!slices.Equal(p.j.All(), p.m.list) || p.j.Len() != len(p.m.list)) {
		return false
	}
	keep := someKeep(r)
	return p.d.Down() == p.e.Down() && content(p.d, 3) == content(p.e, 3) && after(p.d, 3, keep...) == after(p.e, 3, keep...)
}

func TestModel(t *testing.T) {
	for seed := range int64(400) {
		r := rand.New(rand.NewSource(seed))
		p := &pair{d: disk.New(), e: disk.New()}
		if !p.open() {
			t.Fatalf("seed %d: the first Open", seed)
		}
		for i := range 40 {
			if !p.step(r) || !p.same(r) {
				t.Fatalf("seed %d, step %d: the journal differs from its model", seed, i)
			}
		}
	}
}

// P3.6

// history is what a journal had when its machine crashed.
type history struct {
	records []string // with the one whose Append returned an error of the disk
	safe    int      // how many were there when Open or Sync last returned OK
}

// agrees fails the test if the records that are found after a crash are not those that the theorem allows.
func (h history) agrees(t *testing.T, what string, d *disk.Disk) {
	t.Helper()
	d.Lose(0)
	d.Arm(0, nil)
	d.Start()
	j, e := journal.Open(d, 0)
	if e != api.OK {
		t.Fatalf("%s: error %d", what, e)
	}
	if n := j.Len(); n < h.safe || n > len(h.records) || !slices.Equal(j.All(), h.records[:n]) {
		t.Fatalf("%s: found %d records %.200q, want at least %d of %.200q", what, n, j.All(), h.safe, h.records)
	}
}

// work appends and syncs at random until the disk fails or nothing more is to be done.
func work(r *rand.Rand, j *journal.Journal) history {
	h := history{j.All(), j.Len()}
	for range r.Intn(12) {
		s := someRecord(r)
		e := j.Append(s)
		if e == api.OK || e == api.ErrDown {
			h.records = append(h.records, s)
		}
		if e != api.OK {
			break
		}
		if r.Intn(4) > 0 {
			continue
		}
		if j.Sync() != api.OK {
			break
		}
		h.safe = j.Len()
	}
	return h
}

func TestCrashes(t *testing.T) {
	for seed := range int64(3000) {
		r := rand.New(rand.NewSource(seed))
		d := disk.New()
		for range 4 {
			j := open(t, d, 0)
			if r.Intn(3) == 0 {
				d.Lose(1)
			}
			if r.Intn(2) == 0 {
				d.Arm(1+r.Intn(15), someKeep(r))
			}
			h := work(r, j)
			if r.Intn(4) > 0 {
				d.Crash(someKeep(r))
			}
			h.agrees(t, "seed "+strconv.FormatInt(seed, 10), d)
		}
	}
}

// TestEachSetOfSectors lets each set of the pending sectors survive.
func TestEachSetOfSectors(t *testing.T) {
	gap := "a" + strings.Repeat("\x00", 150) + "b"
	for _, c := range [][2][]string{
		{nil, {strings.Repeat("a", 500)}},
		{nil, {strings.Repeat("\xff", 600)}},
		{nil, {strings.Repeat("\x00", 600)}},
		{nil, {gap, "", gap}},
		{{"synced", gap}, {"a", gap, "b", strings.Repeat("x", 60), "c"}},
		{{strings.Repeat("s", 100)}, {strings.Repeat("1:a,97;", 50), "0:,0;", ""}},
		{{""}, {"", strings.Repeat("\x00", 54), "", strings.Repeat("\x00", 120), ""}},
	} {
		d := disk.New()
		j := open(t, d, 0)
		for _, s := range c[0] {
			gives(t, "Append", j.Append(s), api.OK)
		}
		gives(t, "Sync", j.Sync(), api.OK)
		for _, s := range c[1] {
			gives(t, "Append", j.Append(s), api.OK)
		}
		h := history{slices.Concat(c[0], c[1]), len(c[0])}
		const most = 11
		for set := range 1 << most {
			keep := make([]int, most)
			for i := range keep {
				keep[i] = set >> i & 1
			}
			e := d.Copy()
			e.Crash(keep)
			h.agrees(t, "a set of sectors", e)
		}
	}
}

func TestLongestRecordsThatCannotBeMistaken(t *testing.T) {
	for _, s := range []string{strings.Repeat("\xff", 4000), strings.Repeat("\x00\xff", 2000), strings.Repeat("\x01", 4000)} {
		d := disk.New()
		j := open(t, d, 0)
		gives(t, "Append", j.Append(s), api.OK)
		for i := range 63 {
			keep := slices.Repeat([]int{1}, 63)
			keep[i] = 0
			e := d.Copy()
			e.Crash(keep)
			history{[]string{s}, 0}.agrees(t, "one sector is lost", e)
		}
	}
}

func TestCrashesDuringOpen(t *testing.T) {
	for call := 1; call <= 3; call++ {
		for _, keep := range [][]int{{0}, {1}, {0, 1}, {1, 0}} {
			d := disk.New()
			j := open(t, d, 0)
			gives(t, "Append", j.Append("safe"), api.OK)
			gives(t, "Sync", j.Sync(), api.OK)
			for _, s := range []string{strings.Repeat("a", 99), "b", strings.Repeat("c", 99)} {
				gives(t, "Append", j.Append(s), api.OK)
			}
			h := history{j.All(), 1}
			d.Crash([]int{1, 0, 1, 1})
			d.Start()
			d.Arm(call, keep)
			if k, e := journal.Open(d, 0); e == api.OK {
				h.safe = k.Len()
			}
			d.Crash(keep)
			h.agrees(t, "a crash during Open", d)
		}
	}
}

// P3.7

func TestOpenAgainChangesNothing(t *testing.T) {
	for seed := range int64(200) {
		r := rand.New(rand.NewSource(seed))
		d := disk.New()
		s := ""
		for range r.Intn(5) {
			s += form(someRecord(r))
		}
		s += form(someRecord(r))[:1+r.Intn(3)]
		gives(t, "Write", d.Write(0, 0, s), api.OK)
		want := open(t, d, 0).All()
		is := content(d, 0)
		for range 3 {
			d.Arm(2, []int{1}) // the first call, Sync, is the only one
			lists(t, "again", open(t, d, 0), want...)
			holds(t, "again", d, 0, is)
			if got := after(d, 0); got != is {
				t.Errorf("%.80q is durable, want %.80q", got, is)
			}
		}
	}
}

func TestRecordsOfABeginning(t *testing.T) {
	records := []string{"a", "", "1:a,97;", "", strings.Repeat("b", 70), "\x00\x00"}
	s := forms(records...)
	for size := range len(s) + 1 {
		want := 0
		for want < len(records) && len(forms(records[:want+1]...)) <= size {
			want++
		}
		d := holding(t, 0, s[:size])
		lists(t, "a beginning", open(t, d, 0), records[:want]...)
		holds(t, "a beginning", d, 0, forms(records[:want]...))
		for _, more := range []string{"\x00", "x", "0:,0;", s} {
			d := holding(t, 0, s[:size]+more)
			j := open(t, d, 0)
			if j.Len() < want || !slices.Equal(j.All()[:want], records[:want]) {
				t.Errorf("%d bytes and %.20q: %.80q", size, more, j.All())
			}
		}
	}
}
