package key_test

import (
	"fmt"
	"math"
	"slices"
	"strings"
	"testing"

	"bailiff/api"
	"bailiff/key"
)

// P8.4

func TestExampleOfOrder(t *testing.T) {
	l := []api.Key{of("b"), of("10"), symbol(1), of("2"), of("a"), of("01"), symbol(0)}
	want := []api.Key{of("2"), of("10"), of("b"), of("a"), of("01"), symbol(1), symbol(0)}
	if got := key.Order(l); !slices.Equal(got, want) {
		t.Error(showAll(got))
	}
}

func showAll(l []api.Key) string {
	var all []string
	for _, k := range l {
		all = append(all, show(k))
	}
	return strings.Join(all, " ")
}

func TestOrder(t *testing.T) {
	for i, c := range []struct{ l, want []api.Key }{
		{nil, nil},
		{[]api.Key{}, nil},
		{[]api.Key{of("a")}, []api.Key{of("a")}},
		{[]api.Key{of("9"), of("10"), of("100"), of("1"), of("0")}, []api.Key{of("0"), of("1"), of("9"), of("10"), of("100")}},
		{[]api.Key{of("1024"), of("1023"), of("-1"), of("0")}, []api.Key{of("0"), of("1023"), of("1024"), of("-1")}},
		{[]api.Key{of("z"), of(""), of("a"), of("+1"), of("00")}, []api.Key{of("z"), of(""), of("a"), of("+1"), of("00")}},
		{[]api.Key{symbol(9), symbol(0), symbol(math.MaxInt - 1), symbol(3)}, []api.Key{symbol(9), symbol(0), symbol(math.MaxInt - 1), symbol(3)}},
		{[]api.Key{symbol(0), of("a"), of("0")}, []api.Key{of("0"), of("a"), symbol(0)}},
		{[]api.Key{of("a"), symbol(0), of("a"), symbol(0), of("5"), of("5")}, []api.Key{of("5"), of("5"), of("a"), of("a"), symbol(0), symbol(0)}},
		{[]api.Key{both("7", -1), of("7"), both("7", -5), of("6"), both("7", -1)}, []api.Key{of("6"), both("7", -1), of("7"), both("7", -5), both("7", -1)}},
		{[]api.Key{both("1", 3), both("x", -1), of("y"), both("0", -2), both("z", 2)}, []api.Key{both("0", -2), both("x", -1), of("y"), both("1", 3), both("z", 2)}},
		{[]api.Key{of(long(api.MaxString + 1)), symbol(0), of(long(3)), of("3")}, []api.Key{of("3"), of(long(api.MaxString + 1)), of(long(3)), symbol(0)}},
	} {
		if got := key.Order(c.l); !slices.Equal(got, c.want) {
			t.Error(i, showAll(got))
		}
	}
}

var numbers = indices()

// told lays the keys in heaps, one for each index and two more, and takes the heaps one behind the other.
func told(l []api.Key) []api.Key {
	var heaps [1024 + 2][]api.Key
	for _, k := range l {
		heap, index := numbers[k.Str]
		switch {
		case k.Sym > 0:
			heap = 1025
		case !index:
			heap = 1024
		}
		heaps[heap] = append(heaps[heap], k)
	}
	return slices.Concat(heaps[:]...)
}

// hold tells what is wrong with Order of l: its answer, what is left of l, what it shares.
func hold(l, want []api.Key) string {
	room := append(slices.Clone(l), of("room"), symbol(77))
	handed := room[:len(l)]
	before := slices.Clone(room)
	got := key.Order(handed)
	switch {
	case !slices.Equal(got, want):
		return "answer"
	case !slices.Equal(room, before):
		return "handed in"
	}
	again := key.Order(handed)
	for i := range got {
		got[i] = of("changed")
	}
	for i := range got[len(got):cap(got)] {
		got[:cap(got)][len(got)+i] = of("changed")
	}
	switch {
	case !slices.Equal(room, before):
		return "shared with what is handed in"
	case !slices.Equal(again, want):
		return "shared with an answer"
	case !slices.Equal(key.Order(handed), want):
		return "kept"
	}
	for i := range handed {
		handed[i] = of("other")
	}
	if !slices.Equal(again, want) {
		return "hangs on what is handed in"
	}
	return ""
}

// Lists of every few of these keys.
func TestOrderOfAllShort(t *testing.T) {
	keys := []api.Key{of("2"), of("10"), both("2", -1), of("b"), of("02"), both("", -3), symbol(1), symbol(0), both("2", 1)}
	count := 0
	var on func(l []api.Key)
	on = func(l []api.Key) {
		count++
		if s := hold(l, told(l)); s != "" {
			t.Error(s, showAll(l))
		}
		if len(l) < 4 {
			for _, k := range keys {
				on(append(l[:len(l):len(l)], k))
			}
		}
	}
	on(nil)
	if count != 1+9+81+729+6561 {
		t.Error(count)
	}
}

// lists are long ones, made from a short rule, with many keys that are alike in all but what their order shows.
func lists() [][]api.Key {
	var all [][]api.Key
	seed := uint32(1)
	next := func(n int) int {
		seed = seed*1664525 + 1013904223
		return int(seed>>8) % n
	}
	for _, size := range []int{2, 5, 11, 12, 13, 19, 20, 21, 40, 41, 100, 257, 1024, 3000} {
		for _, wide := range []int{1, 3, 40, 2000} {
			var l []api.Key
			for i := range size {
				switch s := fmt.Sprint(next(wide)); next(5) {
				case 0:
					l = append(l, of(s))
				case 1:
					l = append(l, both(s, -1-i))
				case 2:
					l = append(l, of(fmt.Sprint("0", s)))
				case 3:
					l = append(l, of(fmt.Sprint("k", i)))
				case 4:
					l = append(l, symbol(next(wide)))
				}
			}
			all = append(all, l)
		}
	}
	return append(all, rows(), every(), well())
}

// rows are all indices falling, ahead of them symbols and strings.
func rows() []api.Key {
	var l []api.Key
	for n := 1100; n >= 0; n-- {
		l = append(l, symbol(n), of(fmt.Sprint("s", n)), of(fmt.Sprint(n)))
	}
	return l
}

func TestOrderOfLong(t *testing.T) {
	for i, l := range lists() {
		if s := hold(l, told(l)); s != "" {
			t.Error(i, len(l), s)
		}
	}
}

// P8.6

func TestOrderHasItsKeys(t *testing.T) {
	for i, l := range lists() {
		got := key.Order(l)
		counts := map[api.Key]int{}
		for _, k := range l {
			counts[k]++
		}
		for _, k := range got {
			counts[k]--
		}
		for k, n := range counts {
			if n != 0 {
				t.Error(i, show(k), n)
			}
		}
		if again := key.Order(got); !slices.Equal(again, got) {
			t.Error(i, "Order of Order")
		}
	}
}
