package calendar_test

import (
	"math"
	"testing"

	"kerbside/api"
	"kerbside/calendar"
)

// isDate checks Date for a day.
func isDate(t *testing.T, day, year, month, dom int, e api.Errno) {
	t.Helper()
	if gotY, gotM, gotD, gotE := calendar.Date(day); gotY != year || gotM != month || gotD != dom || gotE != e {
		t.Fatalf("Date(%d) is %d, %d, %d, error %d, want %d, %d, %d, error %d", day, gotY, gotM, gotD, gotE, year, month, dom, e)
	}
}

// isDay checks Day for a date.
func isDay(t *testing.T, year, month, dom, day int, e api.Errno) {
	t.Helper()
	if got, gotE := calendar.Day(year, month, dom); got != day || gotE != e {
		t.Fatalf("Day(%d, %d, %d) is %d, error %d, want %d, error %d", year, month, dom, got, gotE, day, e)
	}
}

func isWeekday(t *testing.T, day, weekday int, e api.Errno) {
	t.Helper()
	if got, gotE := calendar.Weekday(day); got != weekday || gotE != e {
		t.Fatalf("Weekday(%d) is %d, error %d, want %d, error %d", day, got, gotE, weekday, e)
	}
}

// adds checks Add for a day and a number of months.
func adds(t *testing.T, day, months, want int, e api.Errno) {
	t.Helper()
	if got, gotE := calendar.Add(day, months); got != want || gotE != e {
		t.Fatalf("Add(%d, %d) is %d, error %d, want %d, error %d", day, months, got, gotE, want, e)
	}
}

func isMonth(t *testing.T, day, first, last int, e api.Errno) {
	t.Helper()
	if gotF, gotL, gotE := calendar.Month(day); gotF != first || gotL != last || gotE != e {
		t.Fatalf("Month(%d) is %d, %d, error %d, want %d, %d, error %d", day, gotF, gotL, gotE, first, last, e)
	}
}

// day returns the day with a date that is one.
func day(t *testing.T, year, month, dom int) int {
	t.Helper()
	n, e := calendar.Day(year, month, dom)
	if e != api.OK {
		t.Fatalf("Day(%d, %d, %d) is error %d", year, month, dom, e)
	}
	return n
}

// extremes are ints far from the days, the months, and the days of a month.
var extremes = []int{math.MinInt, math.MinInt + 1, math.MinInt + 24000, -1 << 62, -1 << 32, -api.MaxDay, 1 << 31, 1 << 32, 1<<32 + 2000, 1 << 62, math.MaxInt - 24000, math.MaxInt - 1, math.MaxInt}

// noDays are ints that are no days.
var noDays = append([]int{-1, -2, -31, -365, api.MaxDay + 1, api.MaxDay + 2, api.MaxDay + 15, api.MaxDay + 16, 146097}, extremes...)

// The chapter's examples.

func TestExamples(t *testing.T) {
	isDate(t, 0, 2000, 1, 1, api.OK)
	isDate(t, 59, 2000, 2, 29, api.OK)
	isDate(t, 100000, 2273, 10, 16, api.OK)
	isDay(t, 2001, 2, 29, 0, api.ErrRange)
	isDay(t, 2000, 12, 31, 365, api.OK)
	isWeekday(t, 0, 5, api.OK)
	isWeekday(t, 2, 0, api.OK)
	adds(t, 30, 1, 59, api.OK)
	isMonth(t, 45, 31, 59, api.OK)
	isMonth(t, 100000, 99985, 100000, api.OK)
}

// P7.1

func TestDates(t *testing.T) {
	for _, c := range [][4]int{
		{0, 2000, 1, 1}, {1, 2000, 1, 2}, {30, 2000, 1, 31}, {31, 2000, 2, 1}, {58, 2000, 2, 28}, {59, 2000, 2, 29}, {60, 2000, 3, 1},
		{90, 2000, 3, 31}, {91, 2000, 4, 1}, {120, 2000, 4, 30}, {151, 2000, 5, 31}, {181, 2000, 6, 30}, {212, 2000, 7, 31}, {243, 2000, 8, 31},
		{273, 2000, 9, 30}, {304, 2000, 10, 31}, {334, 2000, 11, 30}, {364, 2000, 12, 30}, {365, 2000, 12, 31}, {366, 2001, 1, 1},
		{424, 2001, 2, 28}, {425, 2001, 3, 1}, {730, 2001, 12, 31}, {731, 2002, 1, 1}, {1461, 2004, 1, 1}, {1520, 2004, 2, 29}, {1521, 2004, 3, 1},
		{36524, 2099, 12, 31}, {36525, 2100, 1, 1}, {36583, 2100, 2, 28}, {36584, 2100, 3, 1}, {36889, 2100, 12, 31}, {36890, 2101, 1, 1},
		{73048, 2199, 12, 31}, {73049, 2200, 1, 1}, {73107, 2200, 2, 28}, {73108, 2200, 3, 1},
		{99984, 2273, 9, 30}, {99985, 2273, 10, 1}, {99999, 2273, 10, 15}, {100000, 2273, 10, 16},
	} {
		isDate(t, c[0], c[1], c[2], c[3], api.OK)
		isDay(t, c[1], c[2], c[3], c[0], api.OK)
	}
}

func TestWeekdays(t *testing.T) {
	for i, w := range []int{5, 6, 0, 1, 2, 3, 4, 5, 6, 0} {
		isWeekday(t, i, w, api.OK)
	}
	isWeekday(t, day(t, 2026, 11, 20), 4, api.OK)
	isWeekday(t, day(t, 2100, 1, 1), 4, api.OK)
	isWeekday(t, api.MaxDay-1, 2, api.OK)
	isWeekday(t, api.MaxDay, 3, api.OK)
}

func TestNoDays(t *testing.T) {
	for _, n := range noDays {
		isDate(t, n, 0, 0, 0, api.ErrRange)
		isWeekday(t, n, 0, api.ErrRange)
		isMonth(t, n, 0, 0, api.ErrRange)
	}
}

func TestDaysOfEachMonth(t *testing.T) {
	for month, size := range []int{31, 28, 31, 30, 31, 30, 31, 31, 30, 31, 30, 31} {
		for dom := -2; dom <= 40; dom++ {
			n, e := calendar.Day(2003, month+1, dom)
			if is := 1 <= dom && dom <= size; is != (e == api.OK) || !is && (n != 0 || e != api.ErrRange) {
				t.Errorf("Day(2003, %d, %d) is %d, error %d", month+1, dom, n, e)
			}
		}
	}
}

func TestLeapYears(t *testing.T) {
	for _, year := range []int{2000, 2004, 2008, 2020, 2024, 2096, 2104, 2196, 2204, 2268, 2272} {
		n := day(t, year, 2, 29)
		isDate(t, n, year, 2, 29, api.OK)
		isDay(t, year, 2, 28, n-1, api.OK)
		isDay(t, year, 3, 1, n+1, api.OK)
		isDay(t, year, 2, 30, 0, api.ErrRange)
		isMonth(t, n, n-28, n, api.OK)
	}
	for _, year := range []int{2001, 2002, 2003, 2005, 2010, 2090, 2099, 2100, 2101, 2150, 2200, 2202, 2270, 2271, 2273} {
		isDay(t, year, 2, 29, 0, api.ErrRange)
		n := day(t, year, 2, 28)
		isDay(t, year, 3, 1, n+1, api.OK)
		isMonth(t, n, n-27, n, api.OK)
	}
	// These years do have the day, but it is the date of no day.
	for _, year := range []int{-2000, -400, -4, 0, 4, 1600, 1996, 2276, 2400, 4000} {
		isDay(t, year, 2, 29, 0, api.ErrRange)
	}
}

func TestDatesOfNoDay(t *testing.T) {
	for _, c := range [][3]int{
		{1999, 12, 31}, {1999, 12, 1}, {1999, 1, 1}, {1999, 13, 1}, {1900, 1, 1}, {1, 1, 1}, {0, 1, 1}, {-1, 12, 31}, {-2000, 1, 1},
		{2273, 10, 17}, {2273, 10, 18}, {2273, 10, 30}, {2273, 10, 31}, {2273, 10, 32}, {2273, 11, 1}, {2273, 11, 16}, {2273, 12, 31}, {2274, 1, 1}, {2274, 10, 16}, {2300, 1, 1}, {2400, 1, 1},
	} {
		isDay(t, c[0], c[1], c[2], 0, api.ErrRange)
	}
}

func TestNoDates(t *testing.T) {
	for _, month := range append([]int{-12, -1, 0, 13, 14, 24, 100}, extremes...) {
		for _, dom := range []int{-1, 0, 1, 28, 31, 32} {
			isDay(t, 2000, month, dom, 0, api.ErrRange)
			isDay(t, 2100, month, dom, 0, api.ErrRange)
			isDay(t, 1999, month, dom, 0, api.ErrRange)
			isDay(t, 2273, month, dom, 0, api.ErrRange)
		}
	}
	for month := 1; month <= 12; month++ {
		for _, dom := range append([]int{-1, 0, 32, 60, 366, 100000}, extremes...) {
			isDay(t, 2000, month, dom, 0, api.ErrRange)
			isDay(t, 2001, month, dom, 0, api.ErrRange)
			isDay(t, 2273, month, dom, 0, api.ErrRange)
		}
		for _, year := range extremes {
			isDay(t, year, month, 1, 0, api.ErrRange)
			isDay(t, year, month, 31, 0, api.ErrRange)
		}
	}
	for _, year := range extremes {
		for _, month := range extremes {
			for _, dom := range extremes {
				isDay(t, year, month, dom, 0, api.ErrRange)
			}
		}
	}
}

// P7.2

func TestAdd(t *testing.T) {
	for _, c := range [][3]int{
		{0, 0, 0}, {0, 1, 31}, {0, 12, 366}, {30, 0, 30}, {30, 1, 59}, {30, 2, 90}, {30, 3, 120}, {30, 13, 424}, {30, 49, 1520},
		{28, 1, 59}, {29, 1, 59}, {27, 1, 58}, {59, 12, 424}, {59, 48, 1520}, {59, 1, 88}, {366, 0, 366},
		{31, -1, 0}, {59, -1, 28}, {60, -1, 31}, {90, -1, 59}, {424, -12, 58}, {424, -13, 27}, {425, -14, 0}, {1520, -48, 59}, {1520, -37, 394},
		{365, 2, 424}, {365, -10, 59}, {365, 1200, 36889},
		{api.MaxDay, 0, api.MaxDay}, {api.MaxDay, -1, 99970}, {api.MaxDay, -3285, 15}, {0, 3285, 99985}, {15, 3285, api.MaxDay}, {99970, 1, api.MaxDay},
	} {
		adds(t, c[0], c[1], c[2], api.OK)
	}
}

func TestAddToTheEndOfAMonth(t *testing.T) {
	for _, c := range []struct{ year, month, dom, months, toYear, toMonth, toDom int }{
		{2023, 1, 28, 1, 2023, 2, 28}, {2023, 1, 29, 1, 2023, 2, 28}, {2023, 1, 30, 1, 2023, 2, 28}, {2023, 1, 31, 1, 2023, 2, 28},
		{2024, 1, 28, 1, 2024, 2, 28}, {2024, 1, 29, 1, 2024, 2, 29}, {2024, 1, 30, 1, 2024, 2, 29}, {2024, 1, 31, 1, 2024, 2, 29},
		{2024, 2, 29, 12, 2025, 2, 28}, {2024, 2, 29, 48, 2028, 2, 29}, {2024, 2, 29, -12, 2023, 2, 28}, {2024, 2, 29, 1, 2024, 3, 29},
		{2096, 2, 29, 48, 2100, 2, 28}, {2096, 2, 29, 96, 2104, 2, 29}, {2104, 2, 29, -48, 2100, 2, 28}, {2204, 2, 29, -48, 2200, 2, 28},
		{2024, 3, 31, 1, 2024, 4, 30}, {2024, 3, 31, 6, 2024, 9, 30}, {2024, 3, 31, 8, 2024, 11, 30}, {2024, 3, 31, 9, 2024, 12, 31},
		{2024, 5, 31, -1, 2024, 4, 30}, {2024, 5, 31, -3, 2024, 2, 29}, {2024, 5, 31, -15, 2023, 2, 28}, {2024, 3, 30, -1, 2024, 2, 29},
		{2024, 12, 31, 2, 2025, 2, 28}, {2024, 12, 31, 1, 2025, 1, 31}, {2024, 1, 31, -1, 2023, 12, 31}, {2024, 1, 31, -2, 2023, 11, 30},
		{2024, 4, 30, 1, 2024, 5, 30}, {2024, 4, 30, 120, 2034, 4, 30}, {2024, 6, 30, -4, 2024, 2, 29}, {2024, 6, 15, -77, 2018, 1, 15},
	} {
		from, to := day(t, c.year, c.month, c.dom), day(t, c.toYear, c.toMonth, c.toDom)
		adds(t, from, c.months, to, api.OK)
	}
}

func TestAddLeadsToNoDay(t *testing.T) {
	for _, c := range [][2]int{
		{0, -1}, {30, -1}, {59, -2}, {365, -12}, {366, -13}, {api.MaxDay, -3286},
		{api.MaxDay, 1}, {api.MaxDay, 12}, {0, 3286}, {0, 3287}, {0, 3288}, {16, 3285}, {30, 3285}, {99984, 1}, {99971, 1}, {99985, 1}, {99998, 1},
	} {
		adds(t, c[0], c[1], 0, api.ErrRange)
	}
	// In September 2273, and in the last month, only days of the month up to the 16th lead to a day of the last month.
	for dom := 1; dom <= 31; dom++ {
		want, e := 99984+dom, api.OK
		if dom > 16 {
			want, e = 0, api.ErrRange
		}
		adds(t, dom-1, 3285, want, e)
		adds(t, day(t, 2273, 8, dom), 2, want, e)
	}
}

func TestAddOfInvalid(t *testing.T) {
	for _, n := range noDays {
		for _, months := range append([]int{-1, 0, 1, 12, 3285}, extremes...) {
			adds(t, n, months, 0, api.ErrRange)
		}
	}
	for _, n := range []int{0, 5, 59, 50000, 99985, api.MaxDay} {
		for _, months := range extremes {
			adds(t, n, months, 0, api.ErrRange)
		}
	}
	// Months whose sum with those before the day wraps around, to a month that would exist.
	adds(t, api.MaxDay, math.MaxInt, 0, api.ErrRange)
	adds(t, 0, math.MinInt, 0, api.ErrRange)
	for months := 1 << 32; months != 0; months <<= 1 {
		for k := -3; k <= 3; k++ {
			adds(t, 500, months+k, 0, api.ErrRange)
			adds(t, 500, -months+k, 0, api.ErrRange)
		}
	}
}

// P7.3

func TestMonths(t *testing.T) {
	for _, c := range [][3]int{
		{0, 0, 30}, {15, 0, 30}, {30, 0, 30}, {31, 31, 59}, {45, 31, 59}, {59, 31, 59}, {60, 60, 90}, {334, 305, 334}, {335, 335, 365}, {365, 335, 365},
		{366, 366, 396}, {397, 397, 424}, {424, 397, 424}, {425, 425, 455}, {36556, 36556, 36583}, {36583, 36556, 36583}, {36584, 36584, 36614},
		{99955, 99955, 99984}, {99984, 99955, 99984}, {99985, 99985, 100000}, {99990, 99985, 100000}, {99999, 99985, 100000}, {100000, 99985, 100000},
	} {
		isMonth(t, c[0], c[1], c[2], api.OK)
	}
}
