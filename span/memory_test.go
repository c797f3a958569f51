package span_test

import (
	"cmp"
	"fmt"
	"reflect"
	"slices"
	"sync"
	"testing"

	"kerbside/api"
	"kerbside/span"
)

// P11.6

// spare returns a copy of a value whose slices have elements beyond their length, which are not right; they must be neither read nor written.
func spare[T any](v T) T { return spareOf(reflect.ValueOf(v)).Interface().(T) }

func spareOf(v reflect.Value) reflect.Value {
	out := reflect.New(v.Type()).Elem()
	switch v.Kind() {
	case reflect.Struct:
		for i := range v.NumField() {
			out.Field(i).Set(spareOf(v.Field(i)))
		}
	case reflect.Slice:
		all := reflect.MakeSlice(v.Type(), v.Len()+2, v.Len()+2)
		for i := range v.Len() {
			all.Index(i).Set(spareOf(v.Index(i)))
		}
		spoil(all.Index(v.Len()))
		spoil(all.Index(v.Len() + 1))
		out.Set(all.Slice(0, v.Len()))
	default:
		out.Set(v)
	}
	return out
}

// spoil sets all integers within a value to one that is not right, up to the capacities of its slices.
func spoil(v reflect.Value) {
	switch v.Kind() {
	case reflect.Struct:
		for i := range v.NumField() {
			spoil(v.Field(i))
		}
	case reflect.Slice:
		for i := range v.Cap() {
			spoil(v.Slice(0, v.Cap()).Index(i))
		}
	case reflect.Int:
		v.SetInt(-77)
	}
}

// snapshot returns all that a value consists of, up to the capacities of its slices.
func snapshot(v reflect.Value) string {
	var text string
	switch v.Kind() {
	case reflect.Struct:
		for i := range v.NumField() {
			text += snapshot(v.Field(i)) + ","
		}
		return "{" + text + "}"
	case reflect.Slice:
		for i := range v.Cap() {
			text += snapshot(v.Slice(0, v.Cap()).Index(i)) + ","
		}
		return fmt.Sprint(v.Len(), "[", text, "]")
	}
	return fmt.Sprint(v)
}

// block is memory of a slice: from its first byte to the one behind its last one.
type block struct{ from, to uintptr }

// blocks returns the memory of all slices within a value, up to their capacities.
func blocks(v reflect.Value) []block {
	var l []block
	switch v.Kind() {
	case reflect.Struct:
		for i := range v.NumField() {
			l = append(l, blocks(v.Field(i))...)
		}
	case reflect.Slice:
		if n := uintptr(v.Cap()) * v.Type().Elem().Size(); n > 0 {
			l = append(l, block{v.Pointer(), v.Pointer() + n})
		}
		for i := range v.Cap() {
			l = append(l, blocks(v.Slice(0, v.Cap()).Index(i))...)
		}
	}
	return l
}

// alone reports whether no two slices within some values share memory.
func alone(values ...any) bool {
	var l []block
	for _, v := range values {
		l = append(l, blocks(reflect.ValueOf(v))...)
	}
	slices.SortFunc(l, func(a, b block) int { return cmp.Compare(a.from, b.from) })
	for i := 1; i < len(l); i++ {
		if l[i].from < l[i-1].to {
			return false
		}
	}
	return true
}

// call has arguments for all functions.
type call struct {
	S api.System
	G []api.Term
	R api.Range
	W api.Row
}

// answers are the results of all functions.
type answers struct {
	R          api.Range
	B          api.Bounds
	F          api.Frac
	E, Row     api.Errno
	Is, OK, In bool
}

func (c call) answers() answers {
	var a answers
	a.R, a.E = span.Of(c.S, c.G)
	a.Is = span.Check(c.S, c.G, c.R)
	a.B = span.Bounds(c.R)
	a.In, a.Row = span.Implied(c.S, c.W)
	a.F, a.OK = span.Certain(c.S, c.G)
	return a
}

func same(a, b answers) bool {
	return equalRanges(a.R, b.R) && equalBounds(a.B, b.B) && equal(a.F, b.F) && a.E == b.E && a.Row == b.Row && a.Is == b.Is && a.OK == b.OK && a.In == b.In
}

// calls are arguments for which the functions return results of each kind.
func calls() []call {
	long := "340282366920938463463374607431768211456"
	var l []call
	for _, c := range []struct {
		n               int
		rows, goal, row string
	}{
		{3, "0:1 1:1 <= 4\n 0:1 >= 1", "1:1", "1:1 <= 3"}, {3, "0:1 1:1 <= 4\n 0:1 >= 1", "2:1", "1:1 <= 2"}, {3, "0:1 1:1 <= 4\n 0:1 >= 1", "0:1 2:-1", "2:1 == 2"}, {3, "0:1 1:1 == 4", "0:1/3 1:1/3", "0:3 1:3 == 12"}, {3, "0:1 1:1 <= 4\n 0:1 >= 5", "1:1", "1:1 >= 9"}, {2, "", "0:1 1:-1", "== 0"}, {0, "", "", ">= 0"},
		{2, "0:" + long + " 1:1/3 >= " + long + "\n 1:1/" + long + " >= 1/7\n 0:1 == 2", "0:" + long + " 1:5", "1:1 >= " + long}, {2, "0:" + long + " 1:1 <= " + long, "0:" + long + " 1:1/" + long, "0:1 <= " + long + "/7"}, {1, "0:1 == " + long, "0:1/" + long, "0:" + long + " == " + long},
		{3, "0:1 >= 2/4", "1:1", "1:1 <= 3"}, {3, "0:1 >= 1", "1:2/4", "0:1 >= 2/4"}, {-1, "", "", ">= 1"}, {0, ">= 1", "", "== 9"},
	} {
		a := call{S: system(c.n, c.rows), G: terms(c.goal), W: row(c.row)}
		a.R, _ = span.Of(a.S, a.G)
		l = append(l, a)
		// Ranges that Check does not accept.
		a.R.Least.Value, a.R.Most.Value = raw(long+"/5"), raw("-"+long+"/9")
		l = append(l, a)
		a.R = api.Range{Least: api.Optimum{Value: raw(long + "/" + long)}, Most: api.Optimum{Value: raw("2/4")}}
		l = append(l, a)
	}
	return l
}

func TestMemory(t *testing.T) {
	for i, c := range calls() {
		given, want := spare(c), spare(c).answers()
		before := snapshot(reflect.ValueOf(given))
		first, second := given.answers(), given.answers()
		if !same(first, want) || !same(second, want) || !same(c.answers(), want) {
			t.Errorf("%d: another result the second time, or what lies beyond the arguments counts", i)
		}
		if snapshot(reflect.ValueOf(given)) != before {
			t.Errorf("%d: an argument was changed", i)
		}
		if !alone(given, first, second) {
			t.Errorf("%d: results share memory with each other, or with arguments", i)
		}
		spoil(reflect.ValueOf(&given).Elem())
		if !same(first, want) {
			t.Errorf("%d: a result has memory of an argument", i)
		}
		spoil(reflect.ValueOf(&first).Elem())
		if !same(second, want) || !same(c.answers(), want) {
			t.Errorf("%d: a result has memory of another one", i)
		}
	}
}

func TestPartsThatShareTheirDigits(t *testing.T) {
	// Arguments may share memory with each other; results may not.
	d := []int{1}
	one := api.Frac{P: api.Big{Sign: 1, Digits: d}, Q: api.Big{Sign: 1, Digits: d}}
	l := []api.Term{{Var: 0, Coef: one}, {Var: 1, Coef: one}}
	o := api.Optimum{Value: one, X: []api.Frac{one, one}}
	for kind := range api.RoKinds {
		w := api.Row{Terms: l, Kind: kind, Value: one}
		c := call{S: api.System{N: 2, Rows: []api.Row{w, w}}, G: l, R: api.Range{Least: o, Most: o}, W: w}
		a := c.answers()
		if a.E != api.OK || !a.In || !alone(a, d) || d[0] != 1 {
			t.Errorf("a result for rows of the kind %d shares memory", kind)
		}
	}
}

func TestCallsSideBySide(t *testing.T) {
	shared := calls()
	var group sync.WaitGroup
	for range 4 {
		group.Go(func() {
			for i, c := range shared {
				if !same(c.answers(), spare(c).answers()) {
					t.Errorf("%d: the results depend on other calls", i)
				}
			}
		})
	}
	group.Wait()
}
