package calendar

import (
	"sort"

	"kerbside/api"
)

// Months are numbered from 0 here, the January of firstYear.
const (
	firstYear    = 2000
	firstWeekday = 5                          // of day 0
	lastYear     = firstYear + api.MaxDay/365 // each later one begins after MaxDay
	lastMonth    = (lastYear-firstYear)*12 + 11
)

// before has the days of a year without a 29th of February before each of its months.
var before = [...]int{0, 31, 59, 90, 120, 151, 181, 212, 243, 273, 304, 334}

// start returns the first day of a month, also of one that begins after MaxDay.
func start(n int) int {
	februaries := (n + 10) / 12 // that have ended before the month
	return n/12*365 + before[n%12] + leapDays(februaries)
}

// leapDays returns how many of the first years from 2000 on have a 29th of February.
func leapDays(years int) int {
	return (years+3)/4 - (years+99)/100 + (years+399)/400
}

// size returns the number of days of a month.
func size(n int) int { return start(n+1) - start(n) }

// monthOf returns the month in which a day lies.
func monthOf(day int) int {
	// No month has fewer than 28 days, so the month sought is not after day/28.
	return sort.Search(day/28, func(n int) bool { return start(n+1) > day })
}
