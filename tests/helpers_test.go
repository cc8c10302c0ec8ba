package tests

import (
	"math"
	"math/rand"
	"slices"
	"testing"

	"loop.example/g01392/impl"
)

// farNumbers are numbers that are beyond every range of the document.
var farNumbers = []int64{math.MinInt64, math.MinInt64 + 1, -1 << 32, -64, -5, -2, -1, 32, 33, 63, 64, 65, 128, 1 << 31, 1 << 32, math.MaxInt64 - 1, math.MaxInt64}

// noTables are values of the type Table that are no tables.
var noTables = []impl.Table{
	{},
	{Inputs: 0, Values: 1},
	{Inputs: -1},
	{Inputs: -1, Values: -1},
	{Inputs: 6},
	{Inputs: 6, Values: 1},
	{Inputs: 64},
	{Inputs: math.MinInt64},
	{Inputs: math.MaxInt64},
	{Inputs: math.MaxInt64, Values: math.MaxInt64},
	{Inputs: 1, Values: 4},
	{Inputs: 2, Values: 16},
	{Inputs: 3, Values: 256},
	{Inputs: 4, Values: 1 << 16},
	{Inputs: 5, Values: 1 << 32},
	{Inputs: 1, Values: -1},
	{Inputs: 5, Values: -1},
	{Inputs: 5, Values: math.MinInt64},
	{Inputs: 5, Values: math.MaxInt64},
}

// sampleTables returns all tables of 1 to 3 inputs, and for 4 and 5 inputs the constant ones, the
// letters, those with one row, and others from a fixed sequence.
func sampleTables() []impl.Table {
	var list []impl.Table
	for n := int64(1); n <= 3; n++ {
		for values := int64(0); values < 1<<(1<<n); values++ {
			list = append(list, impl.Table{Inputs: n, Values: values})
		}
	}
	source := rand.New(rand.NewSource(1))
	for n := int64(4); n <= 5; n++ {
		all := int64(1)<<(1<<n) - 1
		list = append(list, impl.Table{Inputs: n}, impl.Table{Inputs: n, Values: all})
		for i := range n {
			list = append(list, tableWith(n, func(row []int64) int64 { return row[i] }))
		}
		for k := range int64(1) << n {
			list = append(list, impl.Table{Inputs: n, Values: 1 << k})
		}
		for range 60 {
			list = append(list, impl.Table{Inputs: n, Values: source.Int63() & all})
		}
	}
	return list
}

// digitsOf returns the digits of k in base 2 at the places 0 to n - 1.
func digitsOf(k int64, n int64) []int64 {
	digits := make([]int64, n)
	for i := range digits {
		digits[i] = k % 2
		k /= 2
	}
	return digits
}

// numberOf returns the number with these digits in base 2.
func numberOf(digits []int64) int64 {
	k := int64(0)
	for i := len(digits) - 1; i >= 0; i-- {
		k = 2*k + digits[i]
	}
	return k
}

// valuesOf returns the values of a table in the order of its rows.
func valuesOf(t impl.Table) []int64 {
	return digitsOf(t.Values, 1<<t.Inputs)
}

// tableWith returns the table of n inputs whose value is told by the values of the inputs.
func tableWith(n int64, value func(row []int64) int64) impl.Table {
	values := make([]int64, 1<<n)
	for k := range values {
		values[k] = value(digitsOf(int64(k), n))
	}
	return impl.Table{Inputs: n, Values: numberOf(values)}
}

// allOrders returns all orders of the numbers 0 to n - 1.
func allOrders(n int64) [][]int64 {
	if n == 0 {
		return [][]int64{{}}
	}
	var list [][]int64
	for _, p := range allOrders(n - 1) {
		for place := range n {
			list = append(list, slices.Insert(slices.Clone(p), int(place), n-1))
		}
	}
	return list
}

// wantTable fails unless a table and a code are as wanted.
func wantTable(t *testing.T, call string, got impl.Table, code int64, want impl.Table) {
	t.Helper()
	if got != want || code != impl.ErrNone {
		t.Errorf("%s = %v, %d, want %v, 0", call, got, code, want)
	}
}

// wantTableError fails unless the code is as wanted and the table beside it the zero value.
func wantTableError(t *testing.T, call string, got impl.Table, code int64, want int64) {
	t.Helper()
	if got != (impl.Table{}) || code != want {
		t.Errorf("%s = %v, %d, want the zero value, %d", call, got, code, want)
	}
}

// wantList fails unless a list and a code are as wanted.
func wantList(t *testing.T, call string, got []int64, code int64, want []int64) {
	t.Helper()
	if !slices.Equal(got, want) || code != impl.ErrNone {
		t.Errorf("%s = %v, %d, want %v, 0", call, got, code, want)
	}
}

// wantListError fails unless the code is as wanted and the list beside it empty.
func wantListError(t *testing.T, call string, got []int64, code int64, want int64) {
	t.Helper()
	if len(got) != 0 || code != want {
		t.Errorf("%s = %v, %d, want no list, %d", call, got, code, want)
	}
}

// withSpare returns a list with the same elements and spare capacity behind them, and a function
// that reports whether the elements and the spare capacity are as they were.
func withSpare(list []int64) ([]int64, func() bool) {
	whole := append(slices.Clone(list), 77, 77, 77)
	before := slices.Clone(whole)
	return whole[:len(list)], func() bool { return slices.Equal(whole, before) }
}

// noNetworks are values of the type Network that are no networks.
var noNetworks = []impl.Network{
	{},
	{Points: 1},
	{Points: 0, Contacts: [][]int64{{0, 1, 0, 0}}},
	{Points: 1, Contacts: [][]int64{{0, 1, 0, 0}}},
	{Points: 9},
	{Points: -2},
	{Points: math.MinInt64},
	{Points: math.MaxInt64},
	{Points: math.MaxInt64, Contacts: [][]int64{{0, math.MaxInt64 - 1, 0, 0}}},
	{Points: 3, Contacts: [][]int64{nil}},
	{Points: 3, Contacts: [][]int64{{}}},
	{Points: 3, Contacts: [][]int64{{0}}},
	{Points: 3, Contacts: [][]int64{{0, 1, 0}}},
	{Points: 3, Contacts: [][]int64{{0, 1, 0, 0, 0}}},
	{Points: 3, Contacts: [][]int64{{0, 1, 0, 0}, {0, 1, 0}}},
	{Points: 3, Contacts: [][]int64{{0, 1, 0, 0}, {0, 1, 0, 0, 0}}},
	{Points: 3, Contacts: [][]int64{{1, 0, 0, 0}}},
	{Points: 3, Contacts: [][]int64{{0, 0, 0, 0}}},
	{Points: 3, Contacts: [][]int64{{2, 2, 0, 0}}},
	{Points: 3, Contacts: [][]int64{{0, 3, 0, 0}}},
	{Points: 3, Contacts: [][]int64{{2, 3, 0, 0}}},
	{Points: 8, Contacts: [][]int64{{7, 8, 0, 0}}},
	{Points: 3, Contacts: [][]int64{{-1, 1, 0, 0}}},
	{Points: 3, Contacts: [][]int64{{-2, -1, 0, 0}}},
	{Points: 3, Contacts: [][]int64{{math.MinInt64, math.MaxInt64, 0, 0}}},
	{Points: 3, Contacts: [][]int64{{0, math.MaxInt64, 0, 0}}},
	{Points: 3, Contacts: [][]int64{{math.MinInt64, 1, 0, 0}}},
	{Points: 3, Contacts: [][]int64{{0, 1, 5, 0}}},
	{Points: 3, Contacts: [][]int64{{0, 1, -1, 0}}},
	{Points: 3, Contacts: [][]int64{{0, 1, math.MaxInt64, 0}}},
	{Points: 3, Contacts: [][]int64{{0, 1, math.MinInt64, 0}}},
	{Points: 3, Contacts: [][]int64{{0, 1, 0, 2}}},
	{Points: 3, Contacts: [][]int64{{0, 1, 0, -1}}},
	{Points: 3, Contacts: [][]int64{{0, 1, 0, math.MaxInt64}}},
	{Points: 3, Contacts: [][]int64{{0, 1, 0, math.MinInt64}}},
	{Points: 3, Contacts: [][]int64{{0, 2, 0, 0}, {0, 1, 0, 0}}},
	{Points: 3, Contacts: [][]int64{{1, 2, 0, 0}, {0, 2, 0, 0}}},
	{Points: 3, Contacts: [][]int64{{0, 1, 1, 0}, {0, 1, 0, 1}}},
	{Points: 3, Contacts: [][]int64{{0, 1, 0, 1}, {0, 1, 0, 0}}},
	{Points: 3, Contacts: [][]int64{{0, 1, 0, 0}, {1, 2, 0, 0}, {0, 2, 0, 0}}},
	{Points: 2, Contacts: slices.Repeat([][]int64{{0, 1, 0, 0}}, 13)},
	{Points: 2, Contacts: slices.Repeat([][]int64{{0, 1, 0, 0}}, 1000)},
}

// sampleNetworks returns networks of all numbers of points and of contacts from a fixed sequence,
// with equal contacts and idle ones among them, and ends that nothing joins.
func sampleNetworks() []impl.Network {
	var list []impl.Network
	source := rand.New(rand.NewSource(2))
	for points := int64(2); points <= 8; points++ {
		for count := range 13 {
			for inputs := int64(1); inputs <= 5; inputs += 2 {
				list = append(list, networkFrom(source, points, count, inputs))
			}
		}
	}
	return list
}

// networkFrom returns a network with so many points, contacts and inputs from a sequence. Now and
// then a contact equals the one before it.
func networkFrom(source *rand.Rand, points int64, count int, inputs int64) impl.Network {
	x := impl.Network{Points: points}
	for len(x.Contacts) < count {
		p, q := source.Int63n(points), source.Int63n(points)
		if p == q {
			continue
		}
		c := []int64{min(p, q), max(p, q), source.Int63n(inputs), source.Int63n(2)}
		x.Contacts = append(x.Contacts, c)
		if len(x.Contacts) < count && source.Intn(6) == 0 {
			x.Contacts = append(x.Contacts, slices.Clone(c))
		}
	}
	slices.SortFunc(x.Contacts, slices.Compare)
	return x
}

// sameNetwork reports whether two networks are equal.
func sameNetwork(x impl.Network, y impl.Network) bool {
	return x.Points == y.Points && sameLists(x.Contacts, y.Contacts)
}

// sameLists reports whether two lists of lists are equal.
func sameLists(a [][]int64, b [][]int64) bool {
	return slices.EqualFunc(a, b, slices.Equal)
}

// copyOfLists returns a list of lists with new memory.
func copyOfLists(lists [][]int64) [][]int64 {
	var copied [][]int64
	for _, list := range lists {
		copied = append(copied, slices.Clone(list))
	}
	return copied
}

// spareLists returns the same lists with spare capacity behind each of them and behind their list,
// and a function that reports whether all of it is as it was.
func spareLists(lists [][]int64) ([][]int64, func() bool) {
	behind := []int64{88}
	whole := [][]int64{}
	var checks []func() bool
	for _, list := range lists {
		spare, unchanged := withSpare(list)
		whole = append(whole, spare)
		checks = append(checks, unchanged)
	}
	whole = append(whole, behind, behind)
	given := whole[:len(lists)]
	want := slices.Clone(whole)
	return given, func() bool {
		for i, list := range want {
			if len(list) != len(whole[i]) || len(list) > 0 && &list[0] != &whole[i][0] {
				return false
			}
		}
		for _, unchanged := range checks {
			if !unchanged() {
				return false
			}
		}
		return behind[0] == 88
	}
}

// scribble writes on a list and on the spare capacity behind it.
func scribble(list []int64) {
	list = list[:cap(list)]
	for i := range list {
		list[i] = -99
	}
}

// wantLists fails unless a list of lists and a code are as wanted.
func wantLists(t *testing.T, call string, got [][]int64, code int64, want [][]int64) {
	t.Helper()
	if !sameLists(got, want) || code != impl.ErrNone {
		t.Errorf("%s = %v, %d, want %v, 0", call, got, code, want)
	}
}

// wantNetwork fails unless a network and a code are as wanted.
func wantNetwork(t *testing.T, call string, got impl.Network, code int64, want impl.Network) {
	t.Helper()
	if !sameNetwork(got, want) || code != impl.ErrNone {
		t.Errorf("%s = %v, %d, want %v, 0", call, got, code, want)
	}
}

// wantNetworkError fails unless the code is as wanted and the network beside it the zero value.
func wantNetworkError(t *testing.T, call string, got impl.Network, code int64, want int64) {
	t.Helper()
	if !sameNetwork(got, impl.Network{}) || code != want {
		t.Errorf("%s = %v, %d, want the zero value, %d", call, got, code, want)
	}
}
