package sum_test

import (
	"math"
	"slices"
	"testing"

	"rainbook/api"
	"rainbook/sum"
)

// of makes points of values, at the times 0, 1, 2 and so on.
func of(values ...int) []api.Point {
	out := []api.Point{}
	for i, v := range values {
		out = append(out, api.Point{T: i, V: v})
	}
	return out
}

// repeat answers n points of one value.
func repeat(n, v int) []api.Point {
	return of(slices.Repeat([]int{v}, n)...)
}

func TestOf(t *testing.T) {
	for _, c := range []struct {
		what string
		l    []api.Point
		want api.Sum
	}{
		{"nil", nil, api.Sum{}},
		{"an empty list", []api.Point{}, api.Sum{}},
		{"one", of(7), api.Sum{N: 1, Min: 7, Max: 7, Total: 7}},
		{"one below zero", of(-7), api.Sum{N: 1, Min: -7, Max: -7, Total: -7}},
		{"one of value zero", of(0), api.Sum{N: 1}},
		{"both sides of zero", of(5, -5, 7), api.Sum{N: 3, Min: -5, Max: 7, Total: 7}},
		{"all above zero", of(4, 9, 2), api.Sum{N: 3, Min: 2, Max: 9, Total: 15}},
		{"all below zero", of(-4, -9, -2), api.Sum{N: 3, Min: -9, Max: -2, Total: -15}},
		{"zero among those above", of(4, 0, 2), api.Sum{N: 3, Min: 0, Max: 4, Total: 6}},
		{"the same ones", of(3, 3, 3), api.Sum{N: 3, Min: 3, Max: 3, Total: 9}},
		{"least first, greatest last", of(1, 2, 3), api.Sum{N: 3, Min: 1, Max: 3, Total: 6}},
		{"greatest first, least last", of(3, 2, 1), api.Sum{N: 3, Min: 1, Max: 3, Total: 6}},
		{"together nothing", of(6, -6), api.Sum{N: 2, Min: -6, Max: 6}},
		{"the outermost values", of(api.MaxValue, -api.MaxValue, api.MaxValue), api.Sum{N: 3, Min: -api.MaxValue, Max: api.MaxValue, Total: api.MaxValue}},
		{"as many as a block may have", repeat(api.MaxPoints, api.MaxValue), api.Sum{N: api.MaxPoints, Min: api.MaxValue, Max: api.MaxValue, Total: api.MaxPoints * api.MaxValue}},
	} {
		if got := sum.Of(c.l); got != c.want {
			t.Errorf("%s: %v, want %v", c.what, got, c.want)
		}
	}
}

// What chapter 3 calls wrong points have a sum, too: Of tells no error.
func TestOfAnyPoints(t *testing.T) {
	for _, c := range []struct {
		what string
		l    []api.Point
		want api.Sum
	}{
		{"times that fall", []api.Point{{T: 9, V: 1}, {T: 3, V: 2}}, api.Sum{N: 2, Min: 1, Max: 2, Total: 3}},
		{"one time twice", []api.Point{{T: 3, V: 1}, {T: 3, V: 1}}, api.Sum{N: 2, Min: 1, Max: 1, Total: 2}},
		{"times out of range", []api.Point{{T: -1, V: 5}, {T: math.MaxInt, V: 6}, {T: math.MinInt, V: 7}}, api.Sum{N: 3, Min: 5, Max: 7, Total: 18}},
		{"values out of range", of(api.MaxValue+1, -api.MaxValue-2), api.Sum{N: 2, Min: -api.MaxValue - 2, Max: api.MaxValue + 1, Total: -1}},
		{"the outermost numbers", of(math.MaxInt, math.MinInt), api.Sum{N: 2, Min: math.MinInt, Max: math.MaxInt, Total: -1}},
		{"more than a block may have", repeat(3*api.MaxPoints, -2), api.Sum{N: 3 * api.MaxPoints, Min: -2, Max: -2, Total: -6 * api.MaxPoints}},
	} {
		if got := sum.Of(c.l); got != c.want {
			t.Errorf("%s: %v, want %v", c.what, got, c.want)
		}
	}
}

func TestJoin(t *testing.T) {
	low := api.Sum{N: 2, Min: -9, Max: -3, Total: -12}
	high := api.Sum{N: 3, Min: 4, Max: 8, Total: 17}
	wide := api.Sum{N: 4, Min: -20, Max: 20, Total: 1}
	for _, c := range []struct {
		what string
		a, b api.Sum
		want api.Sum
	}{
		{"low and high", low, high, api.Sum{N: 5, Min: -9, Max: 8, Total: 5}},
		{"high and low", high, low, api.Sum{N: 5, Min: -9, Max: 8, Total: 5}},
		{"one within the other", wide, high, api.Sum{N: 7, Min: -20, Max: 20, Total: 18}},
		{"one around the other", low, wide, api.Sum{N: 6, Min: -20, Max: 20, Total: -11}},
		{"with itself", high, high, api.Sum{N: 6, Min: 4, Max: 8, Total: 34}},
		{"nothing behind", high, api.Sum{}, high},
		{"nothing ahead", api.Sum{}, high, high},
		{"nothing behind what is below zero", low, api.Sum{}, low},
		{"nothing ahead of what is below zero", api.Sum{}, low, low},
		{"nothing and nothing", api.Sum{}, api.Sum{}, api.Sum{}},
	} {
		if got := sum.Join(c.a, c.b); got != c.want {
			t.Errorf("%s: %v, want %v", c.what, got, c.want)
		}
	}
}

// N alone tells whether a sum is one of nothing, whatever else it says; and a sum that no points have is joined as it stands.
func TestJoinAnySums(t *testing.T) {
	some := api.Sum{N: 2, Min: 1, Max: 3, Total: 4}
	odd := api.Sum{Min: -50, Max: 60, Total: 70}
	other := api.Sum{Min: 8, Max: -8, Total: 9}
	for _, c := range []struct {
		what string
		a, b api.Sum
		want api.Sum
	}{
		{"N 0 ahead", odd, some, some},
		{"N 0 behind", some, odd, some},
		{"N 0 in both", odd, other, other},
		{"N 0 in both, the other way", other, odd, odd},
		{"N 0 in both, zero behind", odd, api.Sum{}, api.Sum{}},
		{"N 0 in both, zero ahead", api.Sum{}, odd, odd},
		{"N below 0", some, api.Sum{N: -1, Min: 9, Max: 9, Total: 9}, api.Sum{N: 1, Min: 1, Max: 9, Total: 13}},
		{"N below 0 ahead", api.Sum{N: -1, Min: 9, Max: 9, Total: 9}, some, api.Sum{N: 1, Min: 1, Max: 9, Total: 13}},
		{"N below 0, together 0", some, api.Sum{N: -2, Min: -9, Max: -9, Total: -9}, api.Sum{Min: -9, Max: 3, Total: -5}},
		{"Min above Max", some, api.Sum{N: 1, Min: 5, Max: -5}, api.Sum{N: 3, Min: 1, Max: 3, Total: 4}},
		{"the outermost numbers", api.Sum{N: 1, Min: math.MinInt, Max: math.MinInt, Total: math.MinInt}, api.Sum{N: 1, Min: math.MaxInt, Max: math.MaxInt, Total: math.MaxInt}, api.Sum{N: 2, Min: math.MinInt, Max: math.MaxInt, Total: -1}},
	} {
		if got := sum.Join(c.a, c.b); got != c.want {
			t.Errorf("%s: %v, want %v", c.what, got, c.want)
		}
	}
}

// lists calls f with each list of up to n values from -2 to 2.
func lists(n int, l []int, f func([]int)) {
	f(l)
	if len(l) == n {
		return
	}
	for v := -2; v <= 2; v++ {
		lists(n, append(slices.Clone(l), v), f)
	}
}

// P4.2: wherever a list is parted, the sums of the parts joined are that of the whole.
func TestPartsAreTheWhole(t *testing.T) {
	lists(5, nil, func(values []int) {
		l := of(values...)
		whole := sum.Of(l)
		if whole.N != len(l) {
			t.Fatalf("%v: %d of them", values, whole.N)
		}
		for i := range len(l) + 1 {
			a, b := sum.Of(l[:i]), sum.Of(l[i:])
			if got := sum.Join(a, b); got != whole {
				t.Fatalf("%v parted at %d: %v, want %v", values, i, got, whole)
			}
			if got := sum.Join(b, a); got != whole {
				t.Fatalf("%v parted at %d, the other way: %v, want %v", values, i, got, whole)
			}
		}
	})
}

// Three parts are the whole, whichever two are joined first.
func TestThreePartsAreTheWhole(t *testing.T) {
	lists(4, nil, func(values []int) {
		l := of(values...)
		whole := sum.Of(l)
		for j := range len(l) + 1 {
			for i := range j + 1 {
				a, b, c := sum.Of(l[:i]), sum.Of(l[i:j]), sum.Of(l[j:])
				if got := sum.Join(sum.Join(a, b), c); got != whole {
					t.Fatalf("%v at %d, %d, first two first: %v, want %v", values, i, j, got, whole)
				}
				if got := sum.Join(a, sum.Join(b, c)); got != whole {
					t.Fatalf("%v at %d, %d, last two first: %v, want %v", values, i, j, got, whole)
				}
			}
		}
	})
}

func TestOfOnlyReads(t *testing.T) {
	room := of(3, -1, 4, -1, 5)
	before := slices.Clone(room)
	first := sum.Of(room[:3])
	if !slices.Equal(room, before) {
		t.Errorf("the points are %v now, were %v", room, before)
	}
	if want := (api.Sum{N: 3, Min: -1, Max: 4, Total: 6}); first != want {
		t.Errorf("of the first three: %v, want %v: what is behind them is no part of them", first, want)
	}
	if again := sum.Of(room[:3]); again != first {
		t.Errorf("asked again: %v, first %v", again, first)
	}
}
