package calendar_test

import (
	"math/rand"
	"sync"
	"testing"
	"time"

	"kerbside/api"
	"kerbside/calendar"
)

// A page is a month of the model: its date, its number of days, and its first day.
type page struct{ year, month, size, first int }

// has29 reads the chapter's sentence about the 29th of February.
func has29(year int) bool {
	if year%4 != 0 {
		return false
	}
	return year%100 != 0 || year%400 == 0
}

// pages returns the months of the years from 2000 to 2299, each one after the other.
func pages() []page {
	var l []page
	first := 0
	for year := 2000; year < 2300; year++ {
		for month := 1; month <= 12; month++ {
			size := 31
			switch month {
			case 2:
				size = 28
				if has29(year) {
					size = 29
				}
			case 4, 6, 9, 11:
				size = 30
			}
			l = append(l, page{year, month, size, first})
			first += size
		}
	}
	return l
}

// cut returns what a function returns whose result would be a day, or one after MaxDay.
func cut(day int) (int, api.Errno) {
	if day > api.MaxDay {
		return 0, api.ErrRange
	}
	return day, api.OK
}

// P7.1 and P7.3, for each date, with a model and with Go's own package for dates.

func TestEachDate(t *testing.T) {
	weekday := 5
	for _, p := range pages() {
		last := min(p.first+p.size-1, api.MaxDay)
		for dom := -1; dom <= 33; dom++ {
			n := p.first + dom - 1
			if dom < 1 || dom > p.size || n > api.MaxDay {
				isDay(t, p.year, p.month, dom, 0, api.ErrRange)
				continue
			}
			isDay(t, p.year, p.month, dom, n, api.OK)
			isDate(t, n, p.year, p.month, dom, api.OK)
			isMonth(t, n, p.first, last, api.OK)
			isWeekday(t, n, weekday, api.OK)
			weekday = (weekday + 1) % 7
		}
	}
}

func TestEachDayOfTime(t *testing.T) {
	at := time.Date(2000, 1, 1, 0, 0, 0, 0, time.UTC)
	for n := range api.MaxDay + 1 {
		year, month, dom := at.Date()
		isDate(t, n, year, int(month), dom, api.OK)
		isDay(t, year, int(month), dom, n, api.OK)
		isWeekday(t, n, (int(at.Weekday())+6)%7, api.OK)
		at = at.AddDate(0, 0, 1)
	}
	for range 20000 {
		year, month, dom := at.Date()
		isDay(t, year, int(month), dom, 0, api.ErrRange)
		at = at.AddDate(0, 0, 1)
	}
}

// P7.2, with the model.

// addsTo checks Add from a day of a month to another month of the model.
func addsTo(t *testing.T, l []page, from, dom, to int) {
	t.Helper()
	start := l[from].first + dom - 1
	if dom > l[from].size || start > api.MaxDay {
		return
	}
	want, e := cut(l[to].first + min(dom, l[to].size) - 1)
	adds(t, start, to-from, want, e)
}

func TestAddFromSomeMonths(t *testing.T) {
	l := pages()
	years := []int{0, 1, 4, 96, 100, 199, 200, 268, 273}
	for _, year := range years {
		for from := 12 * year; from < 12*year+12; from++ {
			for to := range l {
				for _, dom := range []int{1, 16, 17, 28, 29, 30, 31} {
					addsTo(t, l, from, dom, to)
				}
			}
			for _, before := range []int{1, 2, 11, 12, 13, 1000, 100000} {
				for dom := 1; dom <= 31; dom++ {
					if n := l[from].first + dom - 1; dom <= l[from].size && n <= api.MaxDay {
						adds(t, n, -from-before, 0, api.ErrRange)
					}
				}
			}
		}
	}
}

func TestAddFewMonths(t *testing.T) {
	l := pages()
	for from := range l {
		for to := max(0, from-25); to < min(len(l), from+26); to++ {
			for dom := 1; dom <= 31; dom++ {
				addsTo(t, l, from, dom, to)
			}
		}
	}
}

// P7.5

func TestDatesInOrder(t *testing.T) {
	before := [3]int{}
	for n := range api.MaxDay + 1 {
		year, month, dom, _ := calendar.Date(n)
		date := [3]int{year, month, dom}
		later := date[0] > before[0] || date[0] == before[0] && (date[1] > before[1] || date[1] == before[1] && date[2] > before[2])
		if !later {
			t.Fatalf("Date(%d) is %v, and Date(%d) is %v", n-1, before, n, date)
		}
		isDay(t, year, month, dom, n, api.OK)
		before = date
	}
}

// P7.6

func TestWeeks(t *testing.T) {
	for n := range api.MaxDay + 1 - 7 {
		w, _ := calendar.Weekday(n)
		isWeekday(t, n+7, w, api.OK)
		next, _ := calendar.Weekday(n + 1)
		if w < 0 || w > 6 || next != (w+1)%7 {
			t.Fatalf("Weekday(%d) is %d, Weekday(%d) is %d", n, w, n+1, next)
		}
	}
}

func TestMonthsInOrder(t *testing.T) {
	next := 0
	for next <= api.MaxDay {
		first, last, e := calendar.Month(next)
		if e != api.OK || first != next || last < first || last > api.MaxDay {
			t.Fatalf("Month(%d) is %d, %d, error %d", next, first, last, e)
		}
		year, month, _, _ := calendar.Date(first)
		for n := first; n <= last; n++ {
			isMonth(t, n, first, last, api.OK)
			isDate(t, n, year, month, n-first+1, api.OK)
		}
		next = last + 1
	}
}

// P7.7

func TestMonthsOneAfterTheOther(t *testing.T) {
	r := rand.New(rand.NewSource(7))
	checked := 0
	for range 300000 {
		n := r.Intn(api.MaxDay + 1)
		if _, _, dom, _ := calendar.Date(n); dom > 28 {
			continue
		}
		a, b := r.Intn(6600)-3300, r.Intn(6600)-3300
		if r.Intn(2) == 0 {
			a, b = r.Intn(80)-40, r.Intn(80)-40
		}
		between, e := calendar.Add(n, a)
		if e != api.OK {
			continue
		}
		want, e := calendar.Add(n, a+b)
		adds(t, between, b, want, e)
		adds(t, between, -a, n, api.OK)
		checked++
	}
	if checked < 100000 {
		t.Fatalf("%d cases", checked)
	}
}

func TestAddKeepsTheOrder(t *testing.T) {
	for _, months := range []int{-3000, -1201, -48, -13, -12, -11, -2, -1, 0, 1, 2, 3, 6, 11, 12, 13, 24, 48, 1200, 3000, 3285} {
		before := 0
		for n := range api.MaxDay + 1 {
			to, e := calendar.Add(n, months)
			if e != api.OK {
				continue
			}
			if to < before {
				t.Fatalf("Add(%d, %d) is %d, after %d", n, months, to, before)
			}
			before = to
		}
	}
}

// P7.4: no state is kept, so calls side by side, and in another order, have the same results.

func TestCallsSideBySide(t *testing.T) {
	l := pages()[:274*12]
	var done sync.WaitGroup
	for i := range 8 {
		done.Go(func() {
			r := rand.New(rand.NewSource(int64(i)))
			for range 20000 {
				p := l[r.Intn(len(l))]
				dom := 1 + r.Intn(p.size)
				want, wantE := cut(p.first + dom - 1)
				if n, e := calendar.Day(p.year, p.month, dom); n != want || e != wantE {
					t.Errorf("Day(%d, %d, %d) is %d, error %d", p.year, p.month, dom, n, e)
				}
				if wantE != api.OK {
					continue
				}
				if year, month, d, e := calendar.Date(want); year != p.year || month != p.month || d != dom || e != api.OK {
					t.Errorf("Date(%d) is %d, %d, %d, error %d", want, year, month, d, e)
				}
				if n, e := calendar.Add(want, 0); n != want || e != api.OK {
					t.Errorf("Add(%d, 0) is %d, error %d", want, n, e)
				}
			}
		})
	}
	done.Wait()
}
