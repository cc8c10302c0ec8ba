package tests

import (
	"math"
	"math/rand"
	"slices"
	"testing"

	"loop.example/g01392/impl"
)

// farNumbers are numbers that are beyond every range of the document.
var farNumbers = []int64{math.MinInt64, math.MinInt64 + 1, -1 << 32, -64, -5, -2, -1, 32, 33, 63, 64, 65, 128, 1 << 31, 1 << 32, math.MaxInt64 - 1, math.MaxInt64}

// noTables are values of the type Table that are no tables.
var noTables = []impl.Table{
	{},
	{Inputs: 0, Values: 1},
	{Inputs: -1},
	{Inputs: -1, Values: -1},
	{Inputs: 6},
	{Inputs: 6, Values: 1},
	{Inputs: 64},
	{Inputs: math.MinInt64},
	{Inputs: math.MaxInt64},
	{Inputs: math.MaxInt64, Values: math.MaxInt64},
	{Inputs: 1, Values: 4},
	{Inputs: 2, Values: 16},
	{Inputs: 3, Values: 256},
	{Inputs: 4, Values: 1 << 16},
	{Inputs: 5, Values: 1 << 32},
	{Inputs: 1, Values: -1},
	{Inputs: 5, Values: -1},
	{Inputs: 5, Values: math.MinInt64},
	{Inputs: 5, Values: math.MaxInt64},
}

// sampleTables returns all tables of 1 to 3 inputs, and for 4 and 5 inputs the constant ones, the
// letters, those with one row, and others from a fixed sequence.
func sampleTables() []impl.Table {
	var list []impl.Table
	for n := int64(1); n <= 3; n++ {
		for values := int64(0); values < 1<<(1<<n); values++ {
			list = append(list, impl.Table{Inputs: n, Values: values})
		}
	}
	source := rand.New(rand.NewSource(1))
	for n := int64(4); n <= 5; n++ {
		all := int64(1)<<(1<<n) - 1
		list = append(list, impl.Table{Inputs: n}, impl.Table{Inputs: n, Values: all})
		for i := range n {
			list = append(list, tableWith(n, func(row []int64) int64 { return row[i] }))
		}
		for k := range int64(1) << n {
			list = append(list, impl.Table{Inputs: n, Values: 1 << k})
		}
		for range 60 {
			list = append(list, impl.Table{Inputs: n, Values: source.Int63() & all})
		}
	}
	return list
}

// digitsOf returns the digits of k in base 2 at the places 0 to n - 1.
func digitsOf(k int64, n int64) []int64 {
	digits := make([]int64, n)
	for i := range digits {
		digits[i] = k % 2
		k /= 2
	}
	return digits
}

// numberOf returns the number with these digits in base 2.
func numberOf(digits []int64) int64 {
	k := int64(0)
	for i := len(digits) - 1; i >= 0; i-- {
		k = 2*k + digits[i]
	}
	return k
}

// valuesOf returns the values of a table in the order of its rows.
func valuesOf(t impl.Table) []int64 {
	return digitsOf(t.Values, 1<<t.Inputs)
}

// tableWith returns the table of n inputs whose value is told by the values of the inputs.
func tableWith(n int64, value func(row []int64) int64) impl.Table {
	values := make([]int64, 1<<n)
	for k := range values {
		values[k] = value(digitsOf(int64(k), n))
	}
	return impl.Table{Inputs: n, Values: numberOf(values)}
}

// allOrders returns all orders of the numbers 0 to n - 1.
func allOrders(n int64) [][]int64 {
	if n == 0 {
		return [][]int64{{}}
	}
	var list [][]int64
	for _, p := range allOrders(n - 1) {
		for place := range n {
			list = append(list, slices.Insert(slices.Clone(p), int(place), n-1))
		}
	}
	return list
}

// wantTable fails unless a table and a code are as wanted.
func wantTable(t *testing.T, call string, got impl.Table, code int64, want impl.Table) {
	t.Helper()
	if got != want || code != impl.ErrNone {
		t.Errorf("%s = %v, %d, want %v, 0", call, got, code, want)
	}
}

// wantTableError fails unless the code is as wanted and the table beside it the zero value.
func wantTableError(t *testing.T, call string, got impl.Table, code int64, want int64) {
	t.Helper()
	if got != (impl.Table{}) || code != want {
		t.Errorf("%s = %v, %d, want the zero value, %d", call, got, code, want)
	}
}

// wantList fails unless a list and a code are as wanted.
func wantList(t *testing.T, call string, got []int64, code int64, want []int64) {
	t.Helper()
	if !slices.Equal(got, want) || code != impl.ErrNone {
		t.Errorf("%s = %v, %d, want %v, 0", call, got, code, want)
	}
}

// wantListError fails unless the code is as wanted and the list beside it empty.
func wantListError(t *testing.T, call string, got []int64, code int64, want int64) {
	t.Helper()
	if len(got) != 0 || code != want {
		t.Errorf("%s = %v, %d, want no list, %d", call, got, code, want)
	}
}

// withSpare returns a list with the same elements and spare capacity behind them, and a function
// that reports whether the elements and the spare capacity are as they were.
func withSpare(list []int64) ([]int64, func() bool) {
	whole := append(slices.Clone(list), 77, 77, 77)
	before := slices.Clone(whole)
	return whole[:len(list)], func() bool { return slices.Equal(whole, before) }
}
