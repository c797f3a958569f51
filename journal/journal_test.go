package journal_test

import (
	"math"
	"slices"
	"strconv"
	"strings"
	"testing"

	"kerbside/api"
	"kerbside/disk"
	"kerbside/journal"
)

func gives(t *testing.T, what string, got, want api.Errno) {
	t.Helper()
	if got != want {
		t.Errorf("%s: error %d, want %d", what, got, want)
	}
}

// content returns the bytes of a file, whether the machine is up or down.
func content(d *disk.Disk, file int) string {
	c := d.Copy()
	c.Start()
	s, _ := c.Read(file, 0, c.Size(file))
	return s
}

// after returns the bytes of a file after a crash.
func after(d *disk.Disk, file int, keep ...int) string {
	c := d.Copy()
	c.Crash(keep)
	return content(c, file)
}

func holds(t *testing.T, what string, d *disk.Disk, file int, want string) {
	t.Helper()
	if got := content(d, file); got != want {
		t.Errorf("%s: file %d is %.80q (%d bytes), want %.80q (%d bytes)", what, file, got, len(got), want, len(want))
	}
}

func lists(t *testing.T, what string, j *journal.Journal, want ...string) {
	t.Helper()
	if got := j.All(); !slices.Equal(got, want) || j.Len() != len(want) {
		t.Errorf("%s: %d records %.80q, Len %d, want %d records %.80q", what, len(got), got, j.Len(), len(want), want)
	}
	for i, s := range want {
		if j.Get(i) != s {
			t.Errorf("%s: Get(%d) is %.80q, want %.80q", what, i, j.Get(i), s)
		}
	}
}

// open opens a file, which must succeed.
func open(t *testing.T, d *disk.Disk, file int) *journal.Journal {
	t.Helper()
	j, e := journal.Open(d, file)
	if j == nil || e != api.OK {
		t.Fatalf("Open(%d): error %d", file, e)
	}
	return j
}

// fails opens a file, which must not succeed.
func fails(t *testing.T, what string, d *disk.Disk, file int, want api.Errno) {
	t.Helper()
	if j, e := journal.Open(d, file); j != nil || e != want {
		t.Errorf("%s: Open(%d) returned a journal: %t, error %d, want %d", what, file, j != nil, e, want)
	}
}

// holding returns a disk with a file that is not synced.
func holding(t *testing.T, file int, s string) *disk.Disk {
	t.Helper()
	d := disk.New()
	gives(t, "Write", d.Write(file, 0, s), api.OK)
	return d
}

// sum is the definition, calculated in another way: each byte counts in the sums of the bytes from each position on.
func sum(record string) int {
	n, tail := 0, 0
	for i := len(record) - 1; i >= 0; i-- {
		tail += int(record[i])
		n += tail
	}
	return n % 2147483647
}

func form(record string) string {
	return strconv.Itoa(len(record)) + ":" + record + "," + strconv.Itoa(sum(record)) + ";"
}

func forms(records ...string) string {
	s := ""
	for _, r := range records {
		s += form(r)
	}
	return s
}

// The chapter's examples.

func TestExamples(t *testing.T) {
	d := disk.New()
	j := open(t, d, 0)
	gives(t, "Append(ab)", j.Append("ab"), api.OK)
	gives(t, "Append of the empty string", j.Append(""), api.OK)
	holds(t, "two records", d, 0, "2:ab,293;0:,0;")
	d = holding(t, 0, "2:ab,293;1:a,98;")
	j = open(t, d, 0)
	lists(t, "a wrong sum", j, "ab")
	holds(t, "a wrong sum", d, 0, "2:ab,293;")
}

// P3.1

func TestSum(t *testing.T) {
	for _, c := range []struct {
		record string
		want   int
	}{
		{"", 0}, {"a", 97}, {"ab", 293}, {"ba", 292}, {"\x00", 0}, {"\x00\x01", 2}, {"\xff", 255}, {"\xc3\xa4", 195 + 2*164},
		// 255 n (n + 1) / 2 is less than the modulus up to n = 4103.
		{strings.Repeat("\xff", 4000), 2040510000},
		{strings.Repeat("\xff", 4103), 2146935780},
		{strings.Repeat("\xff", 4104), 2147982300 - 2147483647},
		{strings.Repeat("\x00", 20000), 0},
		{strings.Repeat("\x00", 19999) + "\xff", 255 * 20000},
	} {
		if got := journal.Sum(c.record); got != c.want || got != sum(c.record) {
			t.Errorf("Sum of %d bytes %.20q is %d, want %d", len(c.record), c.record, got, c.want)
		}
	}
	for _, n := range []int{20000, 20001, 100000, 1 << 20} {
		for _, b := range []string{"\xff", "ab\x00c"} {
			if s := strings.Repeat(b, n/len(b)); journal.Sum(s) != sum(s) {
				t.Errorf("Sum of %d bytes %q is %d, want %d", len(s), b, journal.Sum(s), sum(s))
			}
		}
	}
}

func TestSumThatIsTheModulus(t *testing.T) {
	// Bytes whose sum is the modulus, found from the last one to the first.
	b := make([]byte, 5000)
	for left, i := 2147483647, len(b); i > 0; i-- {
		x := min(255, left/i)
		b[i-1] = byte(x)
		left -= x * i
	}
	if got := journal.Sum(string(b)); got != 0 {
		t.Errorf("the sum is %d, want 0", got)
	}
	b[0]++
	if got := journal.Sum(string(b)); got != 1 {
		t.Errorf("the sum is %d, want 1", got)
	}
}

func TestOpenOfNoFile(t *testing.T) {
	for _, file := range []int{-1, 16, 17, 64, math.MinInt, math.MaxInt} {
		d := disk.New()
		fails(t, "no file", d, file, api.ErrArg)
		d.Lose(1)
		d.Arm(1, nil)
		fails(t, "no file, with a crash that is armed", d, file, api.ErrArg)
		gives(t, "the first call that the disk counts", d.Sync(0), api.ErrDown)
		fails(t, "no file of a machine that is down", d, file, api.ErrArg)
		d.Start()
		gives(t, "the first sync", d.Sync(0), api.ErrLost)
	}
}

func TestOpenEachFile(t *testing.T) {
	d := disk.New()
	for file := range 16 {
		lists(t, "an empty file", open(t, d, file))
		gives(t, "Write", d.Write(file, 0, form(strconv.Itoa(file))+"x"), api.OK)
	}
	for file := range 16 {
		lists(t, "a file", open(t, d, file), strconv.Itoa(file))
		holds(t, "a file", d, file, form(strconv.Itoa(file)))
	}
}

func TestOpenReadsRecords(t *testing.T) {
	most := strings.Repeat("m", 20000)
	for _, c := range []struct {
		s    string
		want []string
	}{
		{"", nil},
		{"0:,0;", []string{""}},
		{"0:,0;0:,0;", []string{"", ""}},
		{"1:a,97;2:ab,293;", []string{"a", "ab"}},
		{form("5:a,b,1;") + form("0:,0;"), []string{"5:a,b,1;", "0:,0;"}},
		{form("\x00\xff\n") + form(" "), []string{"\x00\xff\n", " "}},
		{form(most) + form("a") + form(most), []string{most, "a", most}},
		{"1:\x00,0;", []string{"\x00"}},
	} {
		d := holding(t, 7, c.s)
		lists(t, "records", open(t, d, 7), c.want...)
		holds(t, "records", d, 7, c.s)
	}
}

func TestOpenStopsAtWhatIsNoRecord(t *testing.T) {
	over := strings.Repeat("m", 20001)
	for _, end := range []string{
		"x", "\x00", ";", "1:", "1:a", "1:a,", "1:a,9", "1:a,97", "1a,97;", ":a,97;", "1;a,97;", "-1:a,97;", "+1:a,97;", "01:a,97;", " 1:a,97;", "00:,0;",
		"1:a,98;", "1:a,96;", "1:a,0;", "1:b,97;", "1:\x00,97;", "2:a\x00,98;", "1:a,2147483744;", "0:,2147483647;",
		"1:a,097;", "1:a,-97;", "1:a,+97;", "1:a, 97;", "1:a,97.0;", "1:a,97,", "1:a,97\x00", "0:,00;", "0:,-0;", "0:,;", "1:a,61h;", "0:,18446744073709551616;",
		"1:a;97;", "2:a,97;", "1:ab,293;", "3:ab,293;", "20001:a,97;", "9223372036854775808:a,97;", "18446744073709551617:a,97;", "99999999999999999999:a,97;",
		over, form(over),
	} {
		for _, begin := range [][]string{nil, {"ab"}, {"", "ab", ""}} {
			for _, rest := range []string{"", "1:a,97;", "0:,0;0:,0;"} {
				d := holding(t, 2, forms(begin...)+end+rest)
				lists(t, end[:min(len(end), 30)], open(t, d, 2), begin...)
				holds(t, end[:min(len(end), 30)], d, 2, forms(begin...))
			}
		}
	}
}

func TestOpenOfATornEnd(t *testing.T) {
	begin := []string{"first", "", "2:ab,293;"}
	for _, last := range []string{"", "a", "last,", strings.Repeat("z", 200)} {
		s := form(last)
		for i := range len(s) {
			d := holding(t, 4, forms(begin...)+s[:i])
			lists(t, "an end that is missing", open(t, d, 4), begin...)
			holds(t, "an end that is missing", d, 4, forms(begin...))
			d = holding(t, 4, forms(begin...)+s[:i]+strings.Repeat("\x00", len(s)-i))
			lists(t, "an end of bytes 0", open(t, d, 4), begin...)
			holds(t, "an end of bytes 0", d, 4, forms(begin...))
			d = holding(t, 4, forms(begin...)+s[:i]+"\x00"+s[i+1:]+form("after"))
			lists(t, "one byte 0", open(t, d, 4), begin...)
			holds(t, "one byte 0", d, 4, forms(begin...))
		}
	}
}

func TestOpenMakesDurable(t *testing.T) {
	for _, end := range []string{"", "torn"} {
		s := forms("a", strings.Repeat("b", 99))
		d := holding(t, 1, s+end)
		if got := after(d, 1); got != "" {
			t.Errorf("%q is durable before Open", got)
		}
		j := open(t, d, 1)
		if got := after(d, 1); got != s {
			t.Errorf("%q is durable after Open, want %q", got, s)
		}
		if got := after(d, 1, 1); got != s {
			t.Errorf("%q survives, want %q", got, s)
		}
		lists(t, "durable", j, "a", strings.Repeat("b", 99))
	}
}

func TestOpenLeavesOtherFiles(t *testing.T) {
	d := holding(t, 1, "1:a,97;torn")
	gives(t, "Write", d.Write(2, 0, "1:b,98;other"), api.OK)
	lists(t, "one of two files", open(t, d, 1), "a")
	holds(t, "the other file", d, 2, "1:b,98;other")
	if got := after(d, 2); got != "" {
		t.Errorf("%q of the other file is durable", got)
	}
}

func TestOpenErrors(t *testing.T) {
	d := holding(t, 3, "1:a,97;torn")
	d.Lose(2)
	fails(t, "a lost sync", d, 3, api.ErrLost)
	fails(t, "another lost sync", d, 3, api.ErrLost)
	holds(t, "lost syncs", d, 3, "1:a,97;torn")
	if got := after(d, 3); got != "" {
		t.Errorf("%q is durable after a lost sync", got)
	}
	d.Arm(1, []int{1})
	fails(t, "a crash at Sync", d, 3, api.ErrDown)
	fails(t, "a machine that is down", d, 3, api.ErrDown)
	holds(t, "a crash at Sync", d, 3, "1:a,97;torn")
	d.Start()
	d.Arm(2, []int{0})
	fails(t, "a crash at Truncate", d, 3, api.ErrDown)
	holds(t, "a crash at Truncate", d, 3, "1:a,97;torn")
	d.Start()
	lists(t, "at last", open(t, d, 3), "a")
	holds(t, "at last", d, 3, "1:a,97;")
}

func TestOpenTruncatesOnlyWhatIsLonger(t *testing.T) {
	for _, s := range []string{"", "1:a,97;"} {
		d := holding(t, 3, s)
		d.Arm(2, []int{1})
		j := open(t, d, 3)
		gives(t, "the second call that the disk counts", j.Append("b"), api.ErrDown)
		holds(t, "the record survives", d, 3, s+"1:b,98;")
	}
}

func TestOpenOfAFileOverMax(t *testing.T) {
	long := strings.Repeat("l", 20000)
	s := strings.Repeat(form(long), 60) + form("end")
	d := holding(t, 0, s+"x")
	j := open(t, d, 0)
	if j.Len() != 61 || j.Get(59) != long || j.Get(60) != "end" {
		t.Errorf("%d records", j.Len())
	}
	holds(t, "over Max", d, 0, s)
	gives(t, "Append", j.Append(""), api.ErrFull)
	gives(t, "Sync", j.Sync(), api.OK)
	if j.Len() != 61 {
		t.Errorf("%d records", j.Len())
	}
}

// P3.2

func TestAppend(t *testing.T) {
	records := []string{"a", "", "", "1:a,97;", "\x00\x00", "\xff", strings.Repeat("ä", 500), strings.Repeat("m", 20000), "z"}
	d := holding(t, 5, "1:o,111;")
	j := open(t, d, 5)
	want := []string{"o"}
	for _, s := range records {
		gives(t, "Append", j.Append(s), api.OK)
		want = append(want, s)
		lists(t, "appended", j, want...)
		holds(t, "appended", d, 5, forms(want...))
		if got := after(d, 5); got != "1:o,111;" {
			t.Errorf("%d bytes are durable without a sync", len(got))
		}
	}
	lists(t, "opened again", open(t, d, 5), want...)
}

func TestAppendAfterATornEnd(t *testing.T) {
	d := holding(t, 5, "1:a,97;1:b,98")
	j := open(t, d, 5)
	gives(t, "Append", j.Append("c"), api.OK)
	lists(t, "appended", j, "a", "c")
	holds(t, "appended", d, 5, "1:a,97;1:c,99;")
}

func TestAppendOfALongRecord(t *testing.T) {
	d := disk.New()
	j := open(t, d, 0)
	for _, n := range []int{20001, 20002, 30000, journal.Max, journal.Max + 1} {
		gives(t, "too long", j.Append(strings.Repeat("x", n)), api.ErrRange)
		lists(t, "too long", j)
		holds(t, "too long", d, 0, "")
	}
	most := strings.Repeat("x", 20000)
	gives(t, "the longest", j.Append(most), api.OK)
	lists(t, "the longest", j, most)
	holds(t, "the longest", d, 0, form(most))
	gives(t, "a later one", j.Append("a"), api.OK)
}

// blank returns a record whose form has a number of bytes: bytes 0 have the sum 0.
func blank(t *testing.T, size int) string {
	t.Helper()
	for n := max(size-9, 0); n < size; n++ {
		if s := strings.Repeat("\x00", n); len(form(s)) == size {
			return s
		}
	}
	t.Fatalf("no form of bytes 0 has %d bytes", size)
	return ""
}

// almost returns a journal of file 0 with records whose length is Max - left.
func almost(t *testing.T, d *disk.Disk, left int) *journal.Journal {
	t.Helper()
	j := open(t, d, 0)
	for d.Size(0) < journal.Max-left {
		size := journal.Max - left - d.Size(0)
		if size > 20009 {
			size = min(size-10000, 20009)
		}
		gives(t, "Append", j.Append(blank(t, size)), api.OK)
	}
	return j
}

func TestAppendUpToMax(t *testing.T) {
	for _, c := range []struct {
		left         int
		record, more string // one that fits, one that does not
	}{{5, "", "a"}, {7, "a", "ab"}, {7, "\x01\x00", "\x01\x00\x00"}, {9, "ab", "\xff\xff\xff"}, {journal.Max - 30000, strings.Repeat("\x00", 9), ""}} {
		d := disk.New()
		j := almost(t, d, c.left)
		n := j.Len()
		if c.more != "" {
			gives(t, "over Max", j.Append(c.more), api.ErrFull)
		}
		if j.Len() != n || d.Size(0) != journal.Max-c.left {
			t.Errorf("%d records, %d bytes after ErrFull", j.Len(), d.Size(0))
		}
		gives(t, "after ErrFull", j.Append(c.record), api.OK)
		if j.Len() != n+1 || j.Get(n) != c.record || d.Size(0) != journal.Max-c.left+len(form(c.record)) {
			t.Errorf("%d records, %d bytes", j.Len(), d.Size(0))
		}
	}
	for left := range 5 {
		d := disk.New()
		j := almost(t, d, left)
		gives(t, "too long a record of a full list", j.Append(strings.Repeat("x", 20001)), api.ErrRange)
		gives(t, "a full list", j.Append(""), api.ErrFull)
		gives(t, "Sync", j.Sync(), api.OK)
		gives(t, "opened again", open(t, d, 0).Append(""), api.ErrFull)
		if d.Size(0) != journal.Max-left {
			t.Errorf("%d bytes", d.Size(0))
		}
	}
}

func TestMax(t *testing.T) {
	if journal.Max != 1048576 {
		t.Errorf("Max is %d", journal.Max)
	}
}

func TestAppendDuringACrash(t *testing.T) {
	for _, keep := range [][]int{{1}, {0}} {
		d := disk.New()
		j := open(t, d, 9)
		gives(t, "Append", j.Append("a"), api.OK)
		gives(t, "Sync", j.Sync(), api.OK)
		d.Arm(1, keep)
		gives(t, "too long a record makes no call", j.Append(strings.Repeat("x", 20001)), api.ErrRange)
		gives(t, "Append during a crash", j.Append("b"), api.ErrDown)
		if want := []string{"1:a,97;", "1:a,97;1:b,98;"}[keep[0]]; content(d, 9) != want {
			t.Errorf("keep %d: the file is %q, want %q", keep, content(d, 9), want)
		}
		lists(t, "after the crash", j, "a")
		d.Crash(nil)
		for range 2 {
			gives(t, "Append", j.Append("c"), api.ErrState)
			gives(t, "Append of too long a record", j.Append(strings.Repeat("x", 20001)), api.ErrState)
			gives(t, "Sync", j.Sync(), api.ErrState)
			lists(t, "after an error", j, "a")
			d.Start()
		}
		want := []string{"a", "b"}[:1+keep[0]]
		lists(t, "opened again", open(t, d, 9), want...)
	}
}

func TestErrorsThatAreNotOfTheDisk(t *testing.T) {
	d := disk.New()
	j := almost(t, d, 6)
	n := j.Len()
	gives(t, "ErrRange", j.Append(strings.Repeat("x", 20001)), api.ErrRange)
	gives(t, "ErrFull", j.Append("ab"), api.ErrFull)
	gives(t, "Sync", j.Sync(), api.OK)
	gives(t, "Append", j.Append(""), api.OK)
	d.Crash(nil)
	gives(t, "ErrRange before ErrDown", j.Append(strings.Repeat("x", 20001)), api.ErrRange)
	gives(t, "ErrFull before ErrDown", j.Append("ab"), api.ErrFull)
	if j.Len() != n+1 {
		t.Errorf("%d records, want %d", j.Len(), n+1)
	}
	gives(t, "Sync of a machine that is down", j.Sync(), api.ErrDown)
	gives(t, "ErrState before ErrRange", j.Append(strings.Repeat("x", 20001)), api.ErrState)
	gives(t, "ErrState before ErrFull", j.Append("ab"), api.ErrState)
}

// P3.3

func TestSync(t *testing.T) {
	d := disk.New()
	j, k := open(t, d, 6), open(t, d, 7)
	gives(t, "Sync of an empty list", j.Sync(), api.OK)
	gives(t, "Append", j.Append("a"), api.OK)
	gives(t, "Append", k.Append("b"), api.OK)
	gives(t, "Sync", j.Sync(), api.OK)
	if after(d, 6) != "1:a,97;" || after(d, 7) != "" {
		t.Errorf("%q and %q are durable", after(d, 6), after(d, 7))
	}
	gives(t, "Sync", j.Sync(), api.OK)
	gives(t, "Append after Sync", j.Append("c"), api.OK)
	if after(d, 6) != "1:a,97;" {
		t.Errorf("%q is durable", after(d, 6))
	}
	gives(t, "Sync", j.Sync(), api.OK)
	if after(d, 6) != "1:a,97;1:c,99;" {
		t.Errorf("%q is durable", after(d, 6))
	}
	lists(t, "synced", j, "a", "c")
}

func TestSyncErrors(t *testing.T) {
	for _, c := range []struct {
		what string
		harm func(d *disk.Disk)
		want api.Errno
	}{
		{"lost", func(d *disk.Disk) { d.Lose(1) }, api.ErrLost},
		{"armed", func(d *disk.Disk) { d.Arm(1, []int{1}) }, api.ErrDown},
		{"down", func(d *disk.Disk) { d.Crash([]int{1}) }, api.ErrDown},
	} {
		d := disk.New()
		j, other := open(t, d, 6), open(t, d, 8)
		gives(t, c.what, j.Append("a"), api.OK)
		c.harm(d)
		gives(t, c.what, j.Sync(), c.want)
		for range 2 {
			gives(t, c.what+", Sync again", j.Sync(), api.ErrState)
			gives(t, c.what+", Append", j.Append("b"), api.ErrState)
			lists(t, c.what, j, "a")
			holds(t, c.what, d, 6, "1:a,97;")
			d.Start()
		}
		gives(t, c.what+", another journal", other.Append("o"), api.OK)
		k := open(t, d, 6)
		lists(t, c.what+", opened again", k, "a")
		gives(t, c.what+", opened again", k.Append("b"), api.OK)
		gives(t, c.what+", opened again", k.Sync(), api.OK)
		if got := after(d, 6); got != "1:a,97;1:b,98;" {
			t.Errorf("%s: %q is durable", c.what, got)
		}
	}
}

func TestAppendOfAMachineThatIsDown(t *testing.T) {
	d := disk.New()
	j := open(t, d, 6)
	d.Crash(nil)
	gives(t, "Append", j.Append("a"), api.ErrDown)
	gives(t, "Append again", j.Append("a"), api.ErrState)
	gives(t, "Sync", j.Sync(), api.ErrState)
	lists(t, "down", j)
}

// P3.4

func TestGet(t *testing.T) {
	d := disk.New()
	j := open(t, d, 0)
	for _, i := range []int{-1, 0, 1, math.MinInt, math.MaxInt} {
		if j.Get(i) != "" {
			t.Errorf("Get(%d) of an empty list is %q", i, j.Get(i))
		}
	}
	for n, s := range []string{"a", "b", "", "d"} {
		gives(t, "Append", j.Append(s), api.OK)
		if j.Len() != n+1 || j.Get(n) != s || j.Get(0) != "a" {
			t.Errorf("Len %d, Get(%d) is %q", j.Len(), n, j.Get(n))
		}
		for _, i := range []int{-1, -n - 1, n + 1, n + 2, math.MinInt, math.MaxInt} {
			if j.Get(i) != "" {
				t.Errorf("Get(%d) of %d records is %q", i, n+1, j.Get(i))
			}
		}
	}
}

// P3.5

func TestResultsAreFresh(t *testing.T) {
	d := holding(t, 0, forms("a", "b"))
	j := open(t, d, 0)
	gives(t, "Append", j.Append("c"), api.OK)
	l := j.All()
	l[0], l[2] = "x", "y"
	_ = append(l[:1], "z")
	lists(t, "after a change of the result", j, "a", "b", "c")
	l = j.All()
	_ = append(l, "own")
	gives(t, "Append", j.Append("d"), api.OK)
	m := append(j.All(), "own")
	gives(t, "Append", j.Append("e"), api.OK)
	lists(t, "after appending to the results", j, "a", "b", "c", "d", "e")
	if !slices.Equal(l, []string{"a", "b", "c"}) || !slices.Equal(m, []string{"a", "b", "c", "d", "own"}) {
		t.Errorf("the results became %q and %q", l, m)
	}
	holds(t, "after changes of the results", d, 0, forms("a", "b", "c", "d", "e"))
}

func TestJournalsAreIndependent(t *testing.T) {
	d := disk.New()
	j, k := open(t, d, 1), open(t, d, 2)
	for _, s := range []string{"a", "b", "c"} {
		gives(t, "Append", j.Append(s), api.OK)
		gives(t, "Append", k.Append(s+s), api.OK)
	}
	lists(t, "one", j, "a", "b", "c")
	lists(t, "the other", k, "aa", "bb", "cc")
	holds(t, "one", d, 1, forms("a", "b", "c"))
	holds(t, "the other", d, 2, forms("aa", "bb", "cc"))
}
