package disk_test

import (
	"math"
	"slices"
	"strings"
	"testing"

	"kerbside/api"
	"kerbside/disk"
)

const maxBytes = 1 << 24

func zeros(n int) string { return strings.Repeat("\x00", n) }

// read returns the bytes of a file.
func read(t *testing.T, d *disk.Disk, f int) string {
	t.Helper()
	s, e := d.Read(f, 0, math.MaxInt)
	if e != api.OK || len(s) != d.Size(f) {
		t.Fatalf("Read of the whole file %d: %d bytes, error %d, Size %d", f, len(s), e, d.Size(f))
	}
	return s
}

// durable returns the durable part of a file: what is left of it after a crash that no pending sector survives.
func durable(t *testing.T, d *disk.Disk, f int) string {
	t.Helper()
	c := d.Copy()
	c.Crash(nil)
	c.Start()
	return read(t, c, f)
}

func holds(t *testing.T, what string, d *disk.Disk, f int, want string) {
	t.Helper()
	if got := read(t, d, f); got != want {
		t.Errorf("%s: file %d is %q, want %q", what, f, got, want)
	}
}

func gives(t *testing.T, what string, got, want api.Errno) {
	t.Helper()
	if got != want {
		t.Errorf("%s: error %d, want %d", what, got, want)
	}
}

func isDown(t *testing.T, what string, d *disk.Disk, want bool) {
	t.Helper()
	if d.Down() != want {
		t.Errorf("%s: Down is %t", what, d.Down())
	}
}

// filled returns a disk whose file 3 has durable bytes.
func filled(t *testing.T, s string) *disk.Disk {
	t.Helper()
	d := disk.New()
	gives(t, "Write", d.Write(3, 0, s), api.OK)
	gives(t, "Sync", d.Sync(3), api.OK)
	return d
}

func noFiles() []int { return []int{-1, 16, 17, 64, math.MinInt, math.MaxInt} }

// The chapter's examples.

func TestExamples(t *testing.T) {
	x := strings.Repeat("x", 64)
	for _, c := range []struct {
		what string
		keep []int
		want string
	}{{"survives", []int{1}, "aXY"}, {"lost", []int{0}, "abc"}, {"keep nil", nil, "abc"}} {
		d := disk.New()
		gives(t, c.what, d.Write(0, 0, "abc"), api.OK)
		gives(t, c.what, d.Sync(0), api.OK)
		gives(t, c.what, d.Write(0, 1, "XY"), api.OK)
		d.Crash(c.keep)
		d.Start()
		holds(t, c.what, d, 0, c.want)
	}
	d := disk.New()
	gives(t, "two sectors", d.Write(0, 62, "abcd"), api.OK)
	d.Crash([]int{0, 1})
	d.Start()
	holds(t, "two sectors", d, 0, zeros(64)+"cd")
	d = disk.New()
	gives(t, "four sectors", d.Write(0, 0, strings.Repeat("x", 200)), api.OK)
	d.Crash([]int{1, 0})
	d.Start()
	holds(t, "four sectors", d, 0, x+zeros(64)+x)
}

// P2.1

func TestNew(t *testing.T) {
	d := disk.New()
	isDown(t, "a new disk", d, false)
	for f := range 16 {
		holds(t, "a new disk", d, f, "")
		if durable(t, d, f) != "" {
			t.Errorf("the durable part of file %d of a new disk is not empty", f)
		}
		gives(t, "Sync of a new disk", d.Sync(f), api.OK)
		gives(t, "Truncate of a new disk", d.Truncate(f, 0), api.OK)
		gives(t, "Write into a new disk", d.Write(f, 0, "x"), api.OK)
	}
	d.Crash([]int{1})
	d.Start()
	for f := range 16 {
		holds(t, "one pending sector a file", d, f, "x")
	}
}

func TestSize(t *testing.T) {
	d := disk.New()
	for f := range 16 {
		gives(t, "Write", d.Write(f, f, "ab"), api.OK)
	}
	check := func(what string, want func(f int) int) {
		t.Helper()
		for f := range 16 {
			if d.Size(f) != want(f) {
				t.Errorf("%s: Size(%d) is %d, want %d", what, f, d.Size(f), want(f))
			}
		}
		for _, f := range noFiles() {
			if d.Size(f) != 0 {
				t.Errorf("%s: Size(%d) is %d", what, f, d.Size(f))
			}
		}
	}
	check("written", func(f int) int { return f + 2 })
	gives(t, "Sync", d.Sync(7), api.OK)
	d.Crash(nil)
	only := func(f int) int {
		if f == 7 {
			return 9
		}
		return 0
	}
	check("down", only)
	d.Start()
	check("up again", only)
}

func TestCopyIsIndependent(t *testing.T) {
	d := filled(t, strings.Repeat("a", 70))
	gives(t, "Write", d.Write(3, 66, "bb"), api.OK)
	c := d.Copy()
	gives(t, "Write", d.Write(3, 0, "DDDD"), api.OK)
	gives(t, "Write", c.Write(3, 2, "CCCC"), api.OK)
	gives(t, "Write", d.Write(4, 0, "d"), api.OK)
	holds(t, "the disk", d, 3, "DDDD"+strings.Repeat("a", 62)+"bbaa")
	holds(t, "the copy", c, 3, "aaCCCC"+strings.Repeat("a", 60)+"bbaa")
	holds(t, "the copy", c, 4, "")
	gives(t, "Truncate", d.Truncate(3, 1), api.OK)
	gives(t, "Write", d.Write(3, 0, strings.Repeat("e", 99)), api.OK)
	gives(t, "Sync", d.Sync(3), api.OK)
	holds(t, "the copy after a sync of the disk", c, 3, "aaCCCC"+strings.Repeat("a", 60)+"bbaa")
	// What is pending in the copy is sector 1, then sector 0.
	c.Crash([]int{0, 1})
	isDown(t, "the disk, while the copy is down", d, false)
	isDown(t, "the copy", c, true)
	c.Start()
	holds(t, "the copy", c, 3, "aaCCCC"+strings.Repeat("a", 64))
	holds(t, "the disk", d, 3, strings.Repeat("e", 99))
	d.Crash(nil)
	c = d.Copy()
	isDown(t, "the copy of a disk that is down", c, true)
	d.Start()
	isDown(t, "the copy of a disk that was down", c, true)
	c.Start()
	holds(t, "the copy of a disk that was down", c, 3, strings.Repeat("e", 99))
}

func TestCopyHasItsOwnList(t *testing.T) {
	x := strings.Repeat("x", 64)
	d := disk.New()
	for _, f := range []int{0, 1, 2} {
		gives(t, "Write", d.Write(f, 0, "x"), api.OK)
	}
	c := d.Copy()
	gives(t, "Write", d.Write(4, 128, x), api.OK)
	gives(t, "Write", c.Write(5, 64, x), api.OK)
	if l, k := pending(t, d, 4, 5), pending(t, c, 5, 5); !slices.Equal(l, []int{2}) || !slices.Equal(k, []int{1}) {
		t.Errorf("sectors %d of the disk and %d of the copy are pending", l, k)
	}
	c = d.Copy()
	gives(t, "Sync", d.Sync(0), api.OK)
	c.Crash([]int{1})
	c.Start()
	for f, want := range []string{"x", "x", "x", "", zeros(128) + x} {
		holds(t, "all survive, whatever the disk has synced", c, f, want)
	}
}

func TestCopyHasLoseAndArm(t *testing.T) {
	d := disk.New()
	d.Lose(2)
	d.Arm(3, []int{1})
	c := d.Copy()
	for _, x := range []*disk.Disk{d, c} {
		gives(t, "Write", x.Write(0, 0, "abc"), api.OK)
		gives(t, "first Sync", x.Sync(0), api.ErrLost)
		gives(t, "second Sync", x.Sync(0), api.ErrDown)
		x.Start()
		holds(t, "armed", x, 0, "abc")
		gives(t, "third Sync", x.Sync(0), api.ErrLost)
		gives(t, "fourth Sync", x.Sync(0), api.OK)
	}
	d.Arm(1, nil)
	c = d.Copy()
	d.Arm(0, nil)
	gives(t, "not armed any more", d.Sync(0), api.OK)
	gives(t, "still armed", c.Sync(0), api.ErrDown)
}

// P2.2

func TestRead(t *testing.T) {
	d := disk.New()
	gives(t, "Write", d.Write(5, 0, "abcdef"), api.OK)
	for _, c := range []struct {
		at, size int
		want     string
	}{{0, 6, "abcdef"}, {0, 0, ""}, {0, 1, "a"}, {2, 3, "cde"}, {4, 2, "ef"}, {4, 3, "ef"}, {5, 100, "f"}, {6, 1, ""}, {7, 1, ""}, {6, 0, ""}, {1, math.MaxInt, "bcdef"}, {math.MaxInt, math.MaxInt, ""}, {math.MaxInt, 0, ""}} {
		s, e := d.Read(5, c.at, c.size)
		if s != c.want || e != api.OK {
			t.Errorf("Read(5, %d, %d) = %q, %d, want %q", c.at, c.size, s, e, c.want)
		}
	}
	wrong := [][3]int{{5, -1, 1}, {5, 0, -1}, {5, -1, -1}, {5, math.MinInt, 3}, {5, 3, math.MinInt}, {0, -1, 0}}
	for _, f := range noFiles() {
		wrong = append(wrong, [3]int{f, 0, 1}, [3]int{f, -1, -1})
	}
	for _, c := range wrong {
		if s, e := d.Read(c[0], c[1], c[2]); s != "" || e != api.ErrArg {
			t.Errorf("Read(%d) = %q, %d", c, s, e)
		}
	}
	holds(t, "after reading", d, 5, "abcdef")
}

func TestWrite(t *testing.T) {
	d := disk.New()
	for _, c := range []struct {
		at   int
		s    string
		want string
	}{{0, "abc", "abc"}, {1, "X", "aXc"}, {2, "YZ", "aXYZ"}, {4, "e", "aXYZe"}, {7, "h", "aXYZe\x00\x00h"}, {0, "\x00", "\x00XYZe\x00\x00h"}, {3, "", "\x00XYZe\x00\x00h"}, {8, "", "\x00XYZe\x00\x00h"}, {99, "", "\x00XYZe\x00\x00h"}, {maxBytes, "", "\x00XYZe\x00\x00h"}, {0, "\xff\xfe23456789", "\xff\xfe23456789"}} {
		gives(t, "Write", d.Write(9, c.at, c.s), api.OK)
		holds(t, "Write", d, 9, c.want)
		holds(t, "another file", d, 8, "")
	}
}

func TestWriteErrors(t *testing.T) {
	d := filled(t, "abc")
	long := strings.Repeat("x", maxBytes)
	for _, c := range []struct {
		f, at int
		s     string
		want  api.Errno
	}{
		{3, -1, "x", api.ErrArg}, {3, -1, "", api.ErrArg}, {3, math.MinInt, "x", api.ErrArg}, {3, -1, long + "x", api.ErrArg},
		{3, maxBytes, "x", api.ErrFull}, {3, maxBytes - 1, "xy", api.ErrFull}, {3, maxBytes + 1, "", api.ErrFull}, {3, 1, long, api.ErrFull}, {3, 0, long + "x", api.ErrFull},
		{3, math.MaxInt, "", api.ErrFull}, {3, math.MaxInt, "x", api.ErrFull}, {3, math.MaxInt - 1, "xyz", api.ErrFull}, {3, math.MaxInt, long + "x", api.ErrFull},
		{-1, 0, "x", api.ErrArg}, {16, 0, "", api.ErrArg}, {16, maxBytes, "x", api.ErrArg}, {math.MaxInt, 0, "x", api.ErrArg}, {math.MinInt, 0, "x", api.ErrArg},
	} {
		if e := d.Write(c.f, c.at, c.s); e != c.want {
			t.Errorf("Write(%d, %d, %d bytes): error %d, want %d", c.f, c.at, len(c.s), e, c.want)
		}
		holds(t, "a write that failed", d, 3, "abc")
	}
	d.Crash([]int{1})
	d.Start()
	holds(t, "a crash after writes that failed", d, 3, "abc")
}

func TestWriteUpToTheLimit(t *testing.T) {
	d := disk.New()
	gives(t, "the last byte", d.Write(15, maxBytes-1, "z"), api.OK)
	holds(t, "the last byte", d, 15, zeros(maxBytes-1)+"z")
	if n := len(durable(t, d, 15)); n != 0 {
		t.Errorf("%d bytes are durable", n)
	}
	gives(t, "the whole file", d.Write(15, 0, strings.Repeat("x", maxBytes)), api.OK)
	gives(t, "Sync", d.Sync(15), api.OK)
	d.Crash(nil)
	d.Start()
	holds(t, "the whole file", d, 15, strings.Repeat("x", maxBytes))
}

// pending returns the numbers of the pending sectors of a file that has bytes x in nothing else, in their order in the list: one after the other is the only one to survive.
func pending(t *testing.T, d *disk.Disk, f, most int) []int {
	t.Helper()
	var l []int
	for i := range most {
		c := d.Copy()
		keep := make([]int, most)
		keep[i] = 1
		c.Crash(keep)
		c.Start()
		if s := read(t, c, f); strings.Contains(s, "x") {
			l = append(l, strings.Index(s, "x")/64)
		}
	}
	return l
}

func TestPendingSectors(t *testing.T) {
	type piece struct{ at, size int }
	for _, c := range []struct {
		l    []piece
		want []int
	}{
		{nil, nil},
		{[]piece{{0, 0}, {64, 0}, {65, 0}, {1000, 0}}, nil},
		{[]piece{{0, 1}}, []int{0}},
		{[]piece{{0, 64}}, []int{0}},
		{[]piece{{0, 65}}, []int{0, 1}},
		{[]piece{{63, 1}}, []int{0}},
		{[]piece{{63, 2}}, []int{0, 1}},
		{[]piece{{64, 1}}, []int{1}},
		{[]piece{{64, 64}}, []int{1}},
		{[]piece{{1, 200}}, []int{0, 1, 2, 3}},
		{[]piece{{300, 1}}, []int{4}},
		{[]piece{{64, 1}, {0, 1}}, []int{1, 0}},
		{[]piece{{64, 1}, {0, 200}, {70, 1}}, []int{1, 0, 2, 3}},
		{[]piece{{320, 1}, {128, 1}, {320, 64}, {0, 400}}, []int{5, 2, 0, 1, 3, 4, 6}},
	} {
		d := disk.New()
		for _, p := range c.l {
			gives(t, "Write", d.Write(6, p.at, strings.Repeat("x", p.size)), api.OK)
		}
		if got := pending(t, d, 6, 9); !slices.Equal(got, c.want) {
			t.Errorf("%d: sectors %d are pending, want %d", c.l, got, c.want)
		}
		gives(t, "Sync", d.Sync(6), api.OK)
		gives(t, "Truncate", d.Truncate(6, 0), api.OK)
		if got := pending(t, d, 6, 9); got != nil {
			t.Errorf("%d: sectors %d are pending after Sync and Truncate", c.l, got)
		}
	}
}

func TestGapsAreNotPending(t *testing.T) {
	d := filled(t, "abc")
	gives(t, "Write", d.Write(3, 200, "z"), api.OK)
	c := d.Copy()
	holds(t, "a gap", d, 3, "abc"+zeros(197)+"z")
	d.Crash([]int{0})
	d.Start()
	holds(t, "a gap that is lost", d, 3, "abc")
	c.Crash([]int{1})
	c.Start()
	holds(t, "a gap before a sector that survives", c, 3, "abc"+zeros(197)+"z")
}

func TestSync(t *testing.T) {
	d := disk.New()
	gives(t, "Write", d.Write(0, 100, "abc"), api.OK)
	gives(t, "Write", d.Write(1, 0, "one"), api.OK)
	gives(t, "Write", d.Write(0, 0, "x"), api.OK)
	gives(t, "Write", d.Write(2, 0, "two"), api.OK)
	gives(t, "Sync", d.Sync(0), api.OK)
	want := "x" + zeros(99) + "abc"
	holds(t, "a synced file", d, 0, want)
	if got := durable(t, d, 0); got != want {
		t.Errorf("the durable part is %q, want %q", got, want)
	}
	// Only the sectors of the files 1 and 2 are pending, in this order.
	c := d.Copy()
	c.Crash([]int{0, 1})
	c.Start()
	holds(t, "the file that is lost", c, 1, "")
	holds(t, "the file that survives", c, 2, "two")
	gives(t, "Write", d.Write(0, 1, "y"), api.OK)
	d.Crash([]int{0, 0, 1})
	d.Start()
	holds(t, "pending again, at the end of the list", d, 0, "xy"+zeros(98)+"abc")
	holds(t, "not synced", d, 1, "")
}

func TestSyncErrors(t *testing.T) {
	d := disk.New()
	gives(t, "Write", d.Write(0, 0, "abc"), api.OK)
	d.Lose(1)
	for _, f := range noFiles() {
		gives(t, "Sync of no file", d.Sync(f), api.ErrArg)
	}
	gives(t, "lost, after those that were none", d.Sync(0), api.ErrLost)
	if got := durable(t, d, 0); got != "" {
		t.Errorf("%q is durable", got)
	}
	c := d.Copy()
	c.Crash([]int{1})
	c.Start()
	holds(t, "still pending", c, 0, "abc")
	gives(t, "not lost", d.Sync(0), api.OK)
	if got := durable(t, d, 0); got != "abc" {
		t.Errorf("%q is durable", got)
	}
}

func TestTruncate(t *testing.T) {
	for _, size := range []int{0, 1, 63, 64, 65, 127, 128, 199, 200} {
		d := filled(t, strings.Repeat("a", 150))
		gives(t, "Write", d.Write(3, 30, strings.Repeat("b", 170)), api.OK)
		gives(t, "Write", d.Write(4, 0, "c"), api.OK)
		want := (strings.Repeat("a", 30) + strings.Repeat("b", 170))[:size]
		gives(t, "Truncate", d.Truncate(3, size), api.OK)
		holds(t, "truncated", d, 3, want)
		if got := durable(t, d, 3); got != want {
			t.Errorf("%q is durable after Truncate to %d", got, size)
		}
		c := d.Copy()
		c.Crash([]int{1})
		c.Start()
		holds(t, "only the sector of file 4 is pending", c, 3, want)
		holds(t, "only the sector of file 4 is pending", c, 4, "c")
		gives(t, "Write", d.Write(3, 250, "z"), api.OK)
		holds(t, "what was cut off is gone", d, 3, want+zeros(250-size)+"z")
		gives(t, "Sync", d.Sync(3), api.OK)
		d.Crash(nil)
		d.Start()
		holds(t, "what was cut off is gone for good", d, 3, want+zeros(250-size)+"z")
	}
}

func TestTruncateErrors(t *testing.T) {
	d := filled(t, "abc")
	gives(t, "Write", d.Write(3, 1, "XYZ"), api.OK)
	d.Lose(1)
	for _, size := range []int{5, 64, maxBytes, math.MaxInt, -1, math.MinInt} {
		gives(t, "Truncate beyond the end", d.Truncate(3, size), api.ErrArg)
	}
	for _, f := range noFiles() {
		gives(t, "Truncate of no file", d.Truncate(f, 0), api.ErrArg)
	}
	gives(t, "Truncate of an empty file", d.Truncate(0, 1), api.ErrArg)
	holds(t, "not truncated", d, 3, "aXYZ")
	if got := durable(t, d, 3); got != "abc" {
		t.Errorf("%q is durable", got)
	}
	gives(t, "Truncate loses no sync", d.Truncate(3, 4), api.OK)
	gives(t, "Sync", d.Sync(3), api.ErrLost)
	if got := durable(t, d, 3); got != "aXYZ" {
		t.Errorf("%q is durable", got)
	}
}

func TestDown(t *testing.T) {
	d := filled(t, "abc")
	d.Lose(1)
	d.Crash(nil)
	for range 2 {
		for _, f := range append(noFiles(), 3) {
			for _, at := range []int{-1, 0, math.MaxInt} {
				s, e := d.Read(f, at, at)
				if s != "" || e != api.ErrDown {
					t.Errorf("Read(%d, %d, %d) = %q, %d", f, at, at, s, e)
				}
				gives(t, "Write", d.Write(f, at, "x"), api.ErrDown)
				gives(t, "Truncate", d.Truncate(f, at), api.ErrDown)
			}
			gives(t, "Sync", d.Sync(f), api.ErrDown)
		}
		if !d.Down() || d.Size(3) != 3 {
			t.Errorf("Down %t, Size %d", d.Down(), d.Size(3))
		}
	}
	d.Start()
	isDown(t, "started", d, false)
	holds(t, "started", d, 3, "abc")
	gives(t, "no sync was lost while the machine was down", d.Sync(3), api.ErrLost)
	gives(t, "Sync", d.Sync(3), api.OK)
}

// P2.3

func TestLose(t *testing.T) {
	d := disk.New()
	for _, c := range []struct {
		l    []int
		want int
	}{{[]int{0}, 0}, {[]int{1}, 1}, {[]int{3}, 3}, {[]int{3, 1}, 1}, {[]int{1, 2}, 2}, {[]int{2, 0}, 0}, {[]int{2, -1}, 0}, {[]int{-5}, 0}, {[]int{math.MinInt}, 0}} {
		for _, n := range c.l {
			d.Lose(n)
		}
		for i := range c.want + 2 {
			want := api.Errno(api.OK)
			if i < c.want {
				want = api.ErrLost
			}
			gives(t, "Sync", d.Sync(i), want)
		}
	}
	d.Lose(math.MaxInt)
	d.Crash(nil)
	d.Start()
	gives(t, "lost syncs stay due", d.Sync(0), api.ErrLost)
	d.Crash(nil)
	d.Lose(0)
	d.Start()
	gives(t, "Lose while the machine is down", d.Sync(0), api.OK)
}

func TestKeep(t *testing.T) {
	for _, c := range []struct {
		keep []int
		want string // the sectors that survive, of five
	}{
		{nil, "....."}, {[]int{}, "....."}, {[]int{0}, "....."}, {[]int{2}, "....."}, {[]int{-2}, "....."}, {[]int{math.MinInt}, "....."},
		{[]int{1}, "xxxxx"}, {[]int{3}, "xxxxx"}, {[]int{-1}, "xxxxx"}, {[]int{-3}, "xxxxx"}, {[]int{math.MaxInt}, "xxxxx"}, {[]int{math.MinInt + 1}, "xxxxx"},
		{[]int{1, 0}, "x.x.x"}, {[]int{0, 1}, ".x.x."}, {[]int{1, 1, 0}, "xx.xx"}, {[]int{0, -1, -2, 7}, ".x.x."}, {[]int{0, 0, 0, 0, 1}, "....x"}, {[]int{0, 0, 0, 0, 0, 1}, "....."}, {[]int{1, 0, 0, 0, 0, 1, 1}, "x...."},
		{[]int{0, 1, 9, 9}[:1], "....."}, {[]int{1, 0, 0, 0}[:1], "xxxxx"},
	} {
		d := filled(t, strings.Repeat(".", 5*64))
		gives(t, "Write", d.Write(3, 0, strings.Repeat("x", 5*64)), api.OK)
		before := slices.Clone(c.keep)
		d.Crash(c.keep)
		d.Start()
		var want strings.Builder
		for _, b := range c.want {
			want.WriteString(strings.Repeat(string(b), 64))
		}
		holds(t, "Crash", d, 3, want.String())
		if !slices.Equal(before, c.keep) {
			t.Errorf("keep was %d, and is %d", before, c.keep)
		}
	}
}

func TestCrashOfSeveralFiles(t *testing.T) {
	// The list has sectors of several files, in the order in which they became pending.
	d := disk.New()
	for _, f := range []int{2, 0, 1} {
		gives(t, "Write", d.Write(f, 60, "abcdefgh"), api.OK)
	}
	gives(t, "Write", d.Write(2, 0, "again"), api.OK)
	for i := range 7 {
		c := d.Copy()
		keep := make([]int, 7)
		keep[i] = 1
		c.Crash(keep)
		c.Start()
		for j, f := range []int{2, 0, 1} {
			want := ""
			switch {
			case i == 2*j && f == 2:
				want = "again" + zeros(55) + "abcd"
			case i == 2*j:
				want = zeros(60) + "abcd"
			case i == 2*j+1:
				want = zeros(64) + "efgh"
			}
			holds(t, "Crash", c, f, want)
		}
	}
}

func TestCrashWhileDown(t *testing.T) {
	d := filled(t, "abc")
	d.Crash(nil)
	d.Arm(1, nil)
	d.Crash([]int{1})
	isDown(t, "two crashes", d, true)
	d.Start()
	d.Start()
	isDown(t, "two starts", d, false)
	gives(t, "a crash while the machine is down cancels nothing", d.Sync(3), api.ErrDown)
	d.Start()
	holds(t, "three crashes", d, 3, "abc")
}

func TestNothingIsPendingAfterACrash(t *testing.T) {
	d := disk.New()
	gives(t, "Write", d.Write(0, 0, strings.Repeat("a", 128)), api.OK)
	d.Crash([]int{0, 1})
	d.Start()
	gives(t, "Write", d.Write(0, 64, strings.Repeat("x", 64)), api.OK)
	if got := pending(t, d, 0, 3); !slices.Equal(got, []int{1}) {
		t.Errorf("sectors %d are pending", got)
	}
	gives(t, "Write", d.Write(0, 0, strings.Repeat("x", 64)), api.OK)
	d.Start()
	if got := pending(t, d, 0, 3); !slices.Equal(got, []int{1, 0}) {
		t.Errorf("sectors %d are pending", got)
	}
}

// P2.4

func TestArmCounts(t *testing.T) {
	for n := 1; n <= 9; n++ {
		d := disk.New()
		d.Lose(1)
		d.Arm(n, []int{1})
		calls := []struct {
			what string
			call func() api.Errno
			want api.Errno
			file string // file 0, if the crash is at this call
		}{
			{"Write", func() api.Errno { return d.Write(0, 0, "ab") }, api.OK, "ab"},
			{"Write of no file", func() api.Errno { return d.Write(16, 0, "x") }, api.ErrArg, "ab"},
			{"Write that is too long", func() api.Errno { return d.Write(0, maxBytes, "x") }, api.ErrFull, "ab"},
			{"Sync that is lost", func() api.Errno { return d.Sync(0) }, api.ErrLost, "ab"},
			{"Truncate that fails", func() api.Errno { return d.Truncate(0, 3) }, api.ErrArg, "ab"},
			{"Write of nothing", func() api.Errno { return d.Write(0, 0, "") }, api.OK, "ab"},
			{"Truncate", func() api.Errno { return d.Truncate(0, 1) }, api.OK, "ab"},
			{"Sync", func() api.Errno { return d.Sync(0) }, api.OK, "a"},
			{"Write", func() api.Errno { return d.Write(0, 1, "c") }, api.OK, "ac"},
		}
		for i, c := range calls {
			// Calls of the other methods are not counted.
			_, e := d.Read(0, 0, 9)
			d.Size(0)
			d.Down()
			d.Copy()
			want := c.want
			if i+1 >= n {
				want = api.ErrDown
			}
			gives(t, c.what, c.call(), want)
			isDown(t, c.what, d, i+1 >= n)
			if (e == api.ErrDown) != (i >= n) {
				t.Errorf("armed for %d: Read before the call %d returns %d", n, i+1, e)
			}
		}
		d.Start()
		holds(t, calls[n-1].what, d, 0, calls[n-1].file)
	}
}

func TestArmedCallIsNotPerformed(t *testing.T) {
	d := filled(t, "abc")
	gives(t, "Write", d.Write(3, 0, "X"), api.OK)
	c := d.Copy()
	d.Arm(1, nil)
	gives(t, "Sync", d.Sync(3), api.ErrDown)
	d.Start()
	holds(t, "Sync is not performed", d, 3, "abc")
	c.Arm(1, []int{1})
	gives(t, "Truncate", c.Truncate(3, 0), api.ErrDown)
	c.Start()
	holds(t, "Truncate is not performed", c, 3, "Xbc")
}

func TestArmedWriteIsTorn(t *testing.T) {
	x := strings.Repeat("x", 64)
	for _, c := range []struct {
		keep []int
		want string
	}{{nil, "abc"}, {[]int{0}, "abc"}, {[]int{1}, "a" + strings.Repeat("x", 149)}, {[]int{1, 0}, "a" + x[1:] + zeros(64) + x[:22]}, {[]int{-2, -1, 0}, "abc" + zeros(61) + x}} {
		d := filled(t, "abc")
		d.Arm(1, c.keep)
		gives(t, "Write", d.Write(3, 1, strings.Repeat("x", 149)), api.ErrDown)
		isDown(t, "an armed Write", d, true)
		d.Start()
		holds(t, "an armed Write", d, 3, c.want)
	}
}

func TestArmedWriteThatFails(t *testing.T) {
	for _, c := range []struct {
		f, at int
		s     string
	}{{3, -1, "x"}, {3, maxBytes, "x"}, {3, math.MaxInt, "x"}, {16, 0, "x"}, {-1, -1, ""}} {
		d := filled(t, "abc")
		gives(t, "Write", d.Write(3, 1, "Y"), api.OK)
		d.Arm(1, []int{1})
		gives(t, "a Write that fails", d.Write(c.f, c.at, c.s), api.ErrDown)
		isDown(t, "a Write that fails", d, true)
		d.Start()
		holds(t, "a Write that fails", d, 3, "aYc")
	}
}

func TestArmedFailures(t *testing.T) {
	for _, f := range noFiles() {
		d := disk.New()
		d.Arm(2, nil)
		gives(t, "Sync of no file", d.Sync(f), api.ErrArg)
		gives(t, "Sync of no file", d.Sync(f), api.ErrDown)
		d.Start()
		d.Arm(2, nil)
		gives(t, "Truncate of no file", d.Truncate(f, 0), api.ErrArg)
		gives(t, "Truncate of no file", d.Truncate(f, 0), api.ErrDown)
	}
}

func TestLostSyncsWhileArmed(t *testing.T) {
	d := disk.New()
	gives(t, "Write", d.Write(0, 0, "abc"), api.OK)
	d.Lose(3)
	d.Arm(2, []int{1})
	gives(t, "lost, and counted", d.Sync(0), api.ErrLost)
	gives(t, "crash", d.Sync(0), api.ErrDown)
	d.Start()
	holds(t, "survived", d, 0, "abc")
	gives(t, "not lost at the crash", d.Sync(0), api.ErrLost)
	gives(t, "not lost at the crash", d.Sync(0), api.ErrLost)
	gives(t, "not lost any more", d.Sync(0), api.OK)
}

func TestNoCrashIsScheduled(t *testing.T) {
	for _, n := range []int{0, -1, -2, math.MinInt} {
		d := disk.New()
		d.Arm(2, []int{1})
		d.Arm(n, []int{1})
		for range 5 {
			gives(t, "Write", d.Write(0, 0, "abc"), api.OK)
			gives(t, "Sync", d.Sync(0), api.OK)
			gives(t, "Truncate", d.Truncate(0, 1), api.OK)
		}
	}
	d := disk.New()
	d.Arm(math.MaxInt, nil)
	gives(t, "a crash in the far future", d.Write(0, 0, "abc"), api.OK)
}

func TestArmReplacesTheSchedule(t *testing.T) {
	d := disk.New()
	d.Arm(1, nil)
	d.Arm(3, []int{1})
	gives(t, "first", d.Write(0, 0, "a"), api.OK)
	gives(t, "second", d.Write(0, 1, "b"), api.OK)
	c := d.Copy()
	gives(t, "third", d.Write(0, 2, "c"), api.ErrDown)
	d.Start()
	holds(t, "the second schedule", d, 0, "abc")
	c.Arm(2, nil)
	gives(t, "counted from now on", c.Write(0, 2, "c"), api.OK)
	gives(t, "counted from now on", c.Write(0, 3, "d"), api.ErrDown)
	c.Start()
	holds(t, "the third schedule", c, 0, "")
}

func TestCrashCancelsTheSchedule(t *testing.T) {
	d := disk.New()
	d.Arm(2, nil)
	gives(t, "Write", d.Write(0, 0, "a"), api.OK)
	d.Crash([]int{1})
	d.Start()
	for range 3 {
		gives(t, "after Crash", d.Sync(0), api.OK)
	}
	d.Arm(1, nil)
	gives(t, "armed", d.Sync(0), api.ErrDown)
	d.Start()
	for range 3 {
		gives(t, "after the scheduled crash", d.Write(0, 0, "b"), api.OK)
	}
}

func TestArmWhileDown(t *testing.T) {
	d := filled(t, "abc")
	d.Crash(nil)
	d.Arm(2, []int{1})
	for range 3 {
		gives(t, "not counted", d.Write(3, 0, "x"), api.ErrDown)
		gives(t, "not counted", d.Sync(3), api.ErrDown)
		gives(t, "not counted", d.Truncate(3, 0), api.ErrDown)
	}
	d.Start()
	gives(t, "first", d.Write(3, 0, "X"), api.OK)
	gives(t, "second", d.Write(3, 1, "Y"), api.ErrDown)
	d.Start()
	holds(t, "armed while the machine was down", d, 3, "XYc")
}

func TestArmKeepsItsOwnList(t *testing.T) {
	d := disk.New()
	keep := []int{1, 0, 1}
	d.Arm(1, keep[:1])
	clear(keep)
	gives(t, "Write", d.Write(0, 0, strings.Repeat("x", 128)), api.ErrDown)
	if !slices.Equal(keep, []int{0, 0, 0}) {
		t.Errorf("keep is %d", keep)
	}
	d.Start()
	holds(t, "the list as it was", d, 0, strings.Repeat("x", 128))
}
