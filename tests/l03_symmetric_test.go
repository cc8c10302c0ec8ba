package tests

import (
	"fmt"
	"slices"
	"testing"

	"loop.example/g01392/impl"
)

// tableOfText returns the table with a text, told by the values of its rows.
func tableOfText(text string) impl.Table {
	values := make([]int64, len(text)-2)
	for k := range values {
		values[k] = int64(text[2+k] - '0')
	}
	return impl.Table{Inputs: int64(text[0] - '0'), Values: numberOf(values)}
}

// onesIn returns how many inputs are 1 in a row.
func onesIn(row []int64) int64 {
	ones := int64(0)
	for _, value := range row {
		ones += value
	}
	return ones
}

// allNumbers returns all ascending lists of different numbers in 0..n.
func allNumbers(n int64) [][]int64 {
	var lists [][]int64
	for set := int64(0); set < 1<<(n+1); set++ {
		var list []int64
		for k, digit := range digitsOf(set, n+1) {
			if digit == 1 {
				list = append(list, int64(k))
			}
		}
		lists = append(lists, list)
	}
	return lists
}

// symmetricWith returns the symmetric table of n inputs with numbers, found by its rows.
func symmetricWith(n int64, numbers []int64) impl.Table {
	return tableWith(n, func(row []int64) int64 {
		if slices.Contains(numbers, onesIn(row)) {
			return 1
		}
		return 0
	})
}

// turnedWith returns a table with all inputs turned round that have the digit 1 in a number.
func turnedWith(x impl.Table, turned int64) impl.Table {
	values := valuesOf(x)
	return tableWith(x.Inputs, func(row []int64) int64 { return values[numberOf(row)^turned] })
}

// exchangedWith returns a table with two inputs exchanged.
func exchangedWith(x impl.Table, i int64, j int64) impl.Table {
	values := valuesOf(x)
	return tableWith(x.Inputs, func(row []int64) int64 {
		row[i], row[j] = row[j], row[i]
		return values[numberOf(row)]
	})
}

// isSymmetricWith reports whether a table stays the same if any two of its inputs are exchanged.
func isSymmetricWith(x impl.Table) bool {
	for i := range x.Inputs {
		for j := range i {
			if exchangedWith(x, i, j) != x {
				return false
			}
		}
	}
	return true
}

// symmetricTables returns all symmetric tables.
func symmetricTables() []impl.Table {
	var list []impl.Table
	for n := int64(1); n <= 5; n++ {
		for _, numbers := range allNumbers(n) {
			list = append(list, symmetricWith(n, numbers))
		}
	}
	return list
}

// tablesNearSymmetry returns the sample tables, all symmetric ones, those with inputs turned round,
// those with one row changed, and tables in which some inputs are alike.
func tablesNearSymmetry() []impl.Table {
	list := sampleTables()
	for at, x := range symmetricTables() {
		list = append(list, x)
		for turned := int64(1); turned < 1<<x.Inputs; turned++ {
			list = append(list, turnedWith(x, turned))
		}
		list = append(list, impl.Table{Inputs: x.Inputs, Values: x.Values ^ 1<<(at%(1<<x.Inputs))})
	}
	// The value is told by how many of the inputs in a set are 1, and how many of the others.
	for set := range int64(32) {
		members := digitsOf(set, 5)
		list = append(list, tableWith(5, func(row []int64) int64 {
			in, out := int64(0), int64(0)
			for i, value := range row {
				in += value * members[i]
				out += value * (1 - members[i])
			}
			return min(in*in+2*out, 3) % 2
		}))
	}
	return list
}

// badNumbers returns lists that are no ascending lists of different numbers in 0..n, for n in 1..5.
func badNumbers(n int64) [][]int64 {
	lists := [][]int64{{1, 0}, {n, 0}, {n, n - 1}, {0, 0}, {n, n}, {0, 1, 1}, {0, 1, 0}, {n + 1}, {0, n + 1}, {n, n + 1}, {-1}, {-1, 0}, {0, -1}, {-1, n + 1}, make([]int64, 1000)}
	tooMany := []int64{}
	for k := range n + 2 {
		tooMany = append(tooMany, k)
	}
	lists = append(lists, tooMany)
	for _, far := range farNumbers {
		lists = append(lists, []int64{far}, []int64{0, far}, []int64{far, n})
	}
	return lists
}

func TestIsSymmetric(t *testing.T) {
	for _, x := range tablesNearSymmetry() {
		if got, code := impl.IsSymmetric(x); got != isSymmetricWith(x) || code != impl.ErrNone {
			t.Errorf("IsSymmetric(%v) = %v, %d, want %v, 0", x, got, code, isSymmetricWith(x))
		}
	}
	for text, want := range map[string]bool{
		"1:00": true, "1:01": true, "1:10": true, "1:11": true,
		"2:0110": true, "2:1001": true, "2:1000": true, "2:0100": false, "2:0010": false, "2:0101": false, "2:1011": false,
		"3:01101001": true, "3:00010111": true, "3:00011111": false, "3:00010011": false, "3:00000100": false,
		// It stays the same if all inputs move on by one place, but not if just two are exchanged.
		"4:0001001001001000": false,
		"4:0001011001101000": true,
	} {
		if got, code := impl.IsSymmetric(tableOfText(text)); got != want || code != impl.ErrNone {
			t.Errorf("IsSymmetric of %s = %v, %d, want %v, 0", text, got, code, want)
		}
	}
}

func TestNumbersOf(t *testing.T) {
	for n := int64(1); n <= 5; n++ {
		for _, numbers := range allNumbers(n) {
			x := symmetricWith(n, numbers)
			got, code := impl.NumbersOf(x)
			wantList(t, fmt.Sprintf("NumbersOf(%v)", x), got, code, numbers)
		}
	}
	refused := 0
	for _, x := range tablesNearSymmetry() {
		if !isSymmetricWith(x) {
			got, code := impl.NumbersOf(x)
			wantListError(t, fmt.Sprintf("NumbersOf(%v)", x), got, code, impl.ErrState)
			refused++
		}
	}
	if refused < 1000 {
		t.Errorf("just %d tables that are not symmetric", refused)
	}
	for text, want := range map[string][]int64{
		"1:00": nil, "1:10": {0}, "1:01": {1}, "1:11": {0, 1}, "2:0111": {1, 2}, "3:01101001": {1, 3}, "3:10000001": {0, 3},
	} {
		got, code := impl.NumbersOf(tableOfText(text))
		wantList(t, "NumbersOf of "+text, got, code, want)
	}
}

// numberCalls are the functions that are given n and numbers. Each returns whether its results but
// the code are zero values, and the code.
var numberCalls = []struct {
	name string
	run  func(n int64, numbers []int64) (bool, int64)
}{
	{"SymmetricTable", func(n int64, numbers []int64) (bool, int64) {
		x, code := impl.SymmetricTable(n, numbers)
		return x == impl.Table{}, code
	}},
	{"PartsOfNumbers", func(n int64, numbers []int64) (bool, int64) {
		zero, one, code := impl.PartsOfNumbers(n, numbers)
		return len(zero) == 0 && len(one) == 0, code
	}},
	{"CountStairs", func(n int64, numbers []int64) (bool, int64) {
		points, contacts, code := impl.CountStairs(n, numbers)
		return points == 0 && contacts == 0, code
	}},
	{"StairsOf", func(n int64, numbers []int64) (bool, int64) {
		x, code := impl.StairsOf(n, numbers)
		return sameNetwork(x, impl.Network{}), code
	}},
}

// TestBadNumbers checks that an n out of its range and a list that is not as told are found, ahead
// of the limits of networks.
func TestBadNumbers(t *testing.T) {
	for _, call := range numberCalls {
		for n := int64(1); n <= 5; n++ {
			for _, numbers := range badNumbers(n) {
				if zero, code := call.run(n, numbers); !zero || code != impl.ErrRange {
					t.Errorf("%s of %d and %v: zero value %v, code %d, want ErrRange", call.name, n, numbers, zero, code)
				}
			}
		}
		for _, n := range append([]int64{0, 6, 7}, farNumbers...) {
			for _, numbers := range [][]int64{nil, {}, {0}, {0, 1}, {2}, {0, 1, 2, 3, 4, 5}, {1, 0}, {-1}, {n}} {
				if zero, code := call.run(n, numbers); !zero || code != impl.ErrRange {
					t.Errorf("%s of %d and %v: zero value %v, code %d, want ErrRange", call.name, n, numbers, zero, code)
				}
			}
		}
	}
}

// TestNumbersStay checks that no function writes on a list of numbers or of weights, or behind it.
func TestNumbersStay(t *testing.T) {
	for n := int64(0); n <= 6; n++ {
		for _, list := range append(allNumbers(n), badNumbers(n)...) {
			given, unchanged := withSpare(list)
			for _, call := range numberCalls {
				call.run(n, given)
			}
			impl.TableOfWeights(given, n)
			if !unchanged() {
				t.Errorf("%v is changed, or what is behind it", list)
			}
		}
	}
}

func TestSymmetricTable(t *testing.T) {
	for n := int64(1); n <= 5; n++ {
		for _, numbers := range allNumbers(n) {
			x, code := impl.SymmetricTable(n, numbers)
			wantTable(t, fmt.Sprintf("SymmetricTable(%d, %v)", n, numbers), x, code, symmetricWith(n, numbers))
		}
		x, code := impl.SymmetricTable(n, []int64{})
		wantTable(t, "SymmetricTable of an empty list", x, code, impl.Table{Inputs: n})
	}
	for _, c := range []struct {
		n       int64
		numbers []int64
		text    string
	}{
		{1, nil, "1:00"}, {1, []int64{0}, "1:10"}, {1, []int64{1}, "1:01"}, {1, []int64{0, 1}, "1:11"},
		{2, []int64{1}, "2:0110"}, {3, []int64{0}, "3:10000000"}, {3, []int64{3}, "3:00000001"}, {3, []int64{0, 2}, "3:10010110"},
		{5, []int64{0, 5}, "5:10000000000000000000000000000001"}, {5, []int64{1}, "5:01101000100000001000000000000000"},
	} {
		x, code := impl.SymmetricTable(c.n, c.numbers)
		wantTable(t, fmt.Sprintf("SymmetricTable(%d, %v)", c.n, c.numbers), x, code, tableOfText(c.text))
	}
}

// numbersWith returns the numbers of rows with 1 in the half of a symmetric table in which the last
// input has a value, told by the other inputs.
func numbersWith(n int64, numbers []int64, last int64) []int64 {
	half := int64(1) << (n - 1)
	values := valuesOf(symmetricWith(n, numbers))[last*half : (last+1)*half]
	found := make([]int64, n)
	for k, value := range values {
		if value == 1 {
			found[onesIn(digitsOf(int64(k), n-1))] = 1
		}
	}
	var list []int64
	for k, one := range found {
		if one == 1 {
			list = append(list, int64(k))
		}
	}
	return list
}

func TestPartsOfNumbers(t *testing.T) {
	for n := int64(2); n <= 5; n++ {
		for _, numbers := range allNumbers(n) {
			zero, one, code := impl.PartsOfNumbers(n, numbers)
			call := fmt.Sprintf("PartsOfNumbers(%d, %v)", n, numbers)
			wantList(t, call+" for 0", zero, code, numbersWith(n, numbers, 0))
			wantList(t, call+" for 1", one, code, numbersWith(n, numbers, 1))
			wantApart(t, call, [][]int64{zero, one})
		}
	}
	for _, c := range [][3][]int64{
		{nil, nil, nil},
		{{0}, {0}, nil},
		{{4}, nil, {3}},
		{{0, 4}, {0}, {3}},
		{{1, 2}, {1, 2}, {0, 1}},
		{{0, 1, 2, 3, 4}, {0, 1, 2, 3}, {0, 1, 2, 3}},
	} {
		zero, one, code := impl.PartsOfNumbers(4, c[0])
		wantList(t, fmt.Sprintf("PartsOfNumbers(4, %v) for 0", c[0]), zero, code, c[1])
		wantList(t, fmt.Sprintf("PartsOfNumbers(4, %v) for 1", c[0]), one, code, c[2])
	}
	// A table of one input has no parts with inputs, whatever its numbers.
	for _, numbers := range allNumbers(1) {
		zero, one, code := impl.PartsOfNumbers(1, numbers)
		wantListError(t, "PartsOfNumbers of one input for 0", zero, code, impl.ErrRange)
		wantListError(t, "PartsOfNumbers of one input for 1", one, code, impl.ErrRange)
	}
}

// groupsWith returns the groups of a table: for each input that is alike with no lesser one, those
// that are alike with it.
func groupsWith(x impl.Table) [][]int64 {
	var groups [][]int64
	for i := range x.Inputs {
		var group []int64
		for j := range x.Inputs {
			if exchangedWith(x, i, j) == x {
				group = append(group, j)
			}
		}
		if group[0] == i {
			groups = append(groups, group)
		}
	}
	return groups
}

func TestInputGroups(t *testing.T) {
	for _, x := range tablesNearSymmetry() {
		got, code := impl.InputGroups(x)
		wantLists(t, fmt.Sprintf("InputGroups(%v)", x), got, code, groupsWith(x))
	}
	for text, want := range map[string][][]int64{
		"1:01":                               {{0}},
		"2:0000":                             {{0, 1}},
		"2:0101":                             {{0}, {1}},
		"3:00011111":                         {{0, 1}, {2}},
		"3:01010111":                         {{0}, {1, 2}},
		"3:00110111":                         {{0, 2}, {1}},
		"3:01000111":                         {{0}, {1}, {2}},
		"3:01101001":                         {{0, 1, 2}},
		"4:0000011100000000":                 {{0, 1}, {2}, {3}},
		"4:0101000100000000":                 {{0}, {1}, {2}, {3}},
		"4:0001000100011111":                 {{0, 1}, {2, 3}},
		"4:0000001101010111":                 {{0, 3}, {1, 2}},
		"5:00000000000000000000000000000001": {{0, 1, 2, 3, 4}},
		"5:01010101010101010101010101010101": {{0}, {1, 2, 3, 4}},
		"5:00000000000000001111111111111111": {{0, 1, 2, 3}, {4}},
	} {
		got, code := impl.InputGroups(tableOfText(text))
		wantLists(t, "InputGroups of "+text, got, code, want)
	}
}

// turnsWith returns the inputs that have to be turned round so that a table becomes symmetric, and
// whether there are some, found by trying all sets of inputs.
func turnsWith(x impl.Table) ([]int64, bool) {
	for turned := int64(0); turned < 1<<x.Inputs; turned++ {
		if isSymmetricWith(turnedWith(x, turned)) {
			var list []int64
			for i, digit := range digitsOf(turned, x.Inputs) {
				if digit == 1 {
					list = append(list, int64(i))
				}
			}
			return list, true
		}
	}
	return nil, false
}

func TestTurnsToSymmetric(t *testing.T) {
	found := map[int]int{}
	for _, x := range tablesNearSymmetry() {
		got, code := impl.TurnsToSymmetric(x)
		call := fmt.Sprintf("TurnsToSymmetric(%v)", x)
		if want, there := turnsWith(x); there {
			wantList(t, call, got, code, want)
			found[len(want)]++
		} else {
			wantListError(t, call, got, code, impl.ErrNotFound)
		}
	}
	if len(found) < 4 {
		t.Errorf("just %v numbers of inputs to be turned round", found)
	}
	for text, want := range map[string][]int64{
		"1:01":                               nil,
		"2:0110":                             nil,
		"2:1000":                             nil,
		"2:0100":                             {0},
		"2:0010":                             {0},
		"3:01000000":                         {0},
		"3:00001000":                         {0, 1}, // the input 2 alone would do as well, but 1 and 2 are less than 4
		"3:00000100":                         {1},
		"5:00000000000000001000000000000000": {0, 1, 2, 3}, // 15 is less than 16
		"5:00000000000000000000000010000000": {0, 1, 2},
		"5:00000000100000000000000000000000": {3},
		"5:00000001000000000000000000000000": {0, 1, 2},
	} {
		x := tableOfText(text)
		got, code := impl.TurnsToSymmetric(x)
		wantList(t, "TurnsToSymmetric of "+text, got, code, want)
	}
	for _, text := range []string{"2:0101", "2:0011", "2:1100", "3:00011111", "3:01100000", "4:0001001001001000"} {
		got, code := impl.TurnsToSymmetric(tableOfText(text))
		wantListError(t, "TurnsToSymmetric of "+text, got, code, impl.ErrNotFound)
	}
}

// stairStep is the step i, j of a staircase.
type stairStep struct{ i, j int64 }

// stairsWith returns the staircase of n and numbers, however great it is: from the steps that are
// the end 1 it goes back to all steps that lead there.
func stairsWith(n int64, numbers []int64) impl.Network {
	kept := map[stairStep]bool{}
	for _, j := range numbers {
		kept[stairStep{n, j}] = true
	}
	for i := n - 1; i >= 0; i-- {
		for j := int64(0); j <= i; j++ {
			if kept[stairStep{i + 1, j}] || kept[stairStep{i + 1, j + 1}] {
				kept[stairStep{i, j}] = true
			}
		}
	}
	x := impl.Network{Points: 2}
	point := map[stairStep]int64{{0, 0}: 0}
	for i := int64(1); i <= n; i++ {
		for j := int64(0); j <= i; j++ {
			if i == n {
				point[stairStep{i, j}] = 1
			} else if kept[stairStep{i, j}] {
				point[stairStep{i, j}] = x.Points
				x.Points++
			}
		}
	}
	lead := func(from stairStep, to stairStep, kind int64) {
		if kept[from] && kept[to] {
			p, q := point[from], point[to]
			x.Contacts = append(x.Contacts, []int64{min(p, q), max(p, q), from.i, kind})
		}
	}
	for from := range point {
		if from.i < n {
			lead(from, stairStep{from.i + 1, from.j}, 1)
			lead(from, stairStep{from.i + 1, from.j + 1}, 0)
		}
	}
	return sortedNetwork(x.Points, x.Contacts)
}

func TestStaircases(t *testing.T) {
	atLimit, beyond := 0, 0
	for n := int64(1); n <= 5; n++ {
		for _, numbers := range allNumbers(n) {
			want := stairsWith(n, numbers)
			points, contacts, code := impl.CountStairs(n, numbers)
			if points != want.Points || contacts != int64(len(want.Contacts)) || code != impl.ErrNone {
				t.Errorf("CountStairs(%d, %v) = %d, %d, %d, want %d, %d, 0", n, numbers, points, contacts, code, want.Points, len(want.Contacts))
			}
			x, code := impl.StairsOf(n, numbers)
			call := fmt.Sprintf("StairsOf(%d, %v)", n, numbers)
			if want.Points <= 8 && len(want.Contacts) <= 12 {
				wantNetwork(t, call, x, code, want)
			} else {
				wantNetworkError(t, call, x, code, impl.ErrLimit)
			}
			if want.Points == 8 || len(want.Contacts) == 12 {
				atLimit++
			}
			if want.Points == 9 || len(want.Contacts) == 13 {
				beyond++
			}
		}
	}
	if atLimit == 0 || beyond == 0 {
		t.Errorf("%d staircases at the limits, %d one beyond them", atLimit, beyond)
	}
}

func TestStaircasesByHand(t *testing.T) {
	for _, c := range []struct {
		n        int64
		numbers  []int64
		points   int64
		contacts int64
		text     string
	}{
		{1, nil, 2, 0, "2:"},
		{1, []int64{0}, 2, 1, "2:01A"},
		{1, []int64{1}, 2, 1, "2:01a"},
		{1, []int64{0, 1}, 2, 2, "2:01a,01A"},
		{2, []int64{}, 2, 0, "2:"},
		{2, []int64{0}, 3, 2, "3:02A,12B"},
		{2, []int64{2}, 3, 2, "3:02a,12b"},
		{2, []int64{1}, 4, 4, "4:02A,03a,12b,13B"},
		{2, []int64{0, 2}, 4, 4, "4:02A,03a,12B,13b"},
		{2, []int64{0, 1, 2}, 4, 6, "4:02A,03a,12b,12B,13b,13B"},
		{3, nil, 2, 0, "2:"},
		{3, []int64{1}, 6, 7, "6:02A,03a,14c,15C,24B,25b,35B"},
		{3, []int64{0, 1, 2, 3}, 7, 12, "7:02A,03a,14c,14C,15c,15C,16c,16C,24B,25b,35B,36b"},
		{4, []int64{0, 4}, 8, 8, "8:02A,03a,16D,17d,24B,35b,46C,57c"},
		{4, []int64{1}, 8, 10, "8:02A,03a,16d,17D,24B,25b,35B,46C,47c,57C"},
		{4, []int64{3, 4}, 8, 11, "8:02A,03a,16d,17d,17D,24b,34B,35b,46c,56C,57c"},
		{4, []int64{2}, 9, 12, ""},
		{4, []int64{1, 4}, 10, 13, ""},
		{4, nil, 2, 0, "2:"},
		{4, []int64{0, 1, 2, 3, 4}, 11, 20, ""},
		{5, nil, 2, 0, "2:"},
		{5, []int64{0}, 6, 5, "6:02A,15E,23B,34C,45D"},
		{5, []int64{5}, 6, 5, "6:02a,15e,23b,34c,45d"},
		{5, []int64{1}, 10, 13, ""},
		{5, []int64{0, 1, 2, 3, 4, 5}, 16, 30, ""},
	} {
		call := fmt.Sprintf("(%d, %v)", c.n, c.numbers)
		points, contacts, code := impl.CountStairs(c.n, c.numbers)
		if points != c.points || contacts != c.contacts || code != impl.ErrNone {
			t.Errorf("CountStairs%s = %d, %d, %d, want %d, %d, 0", call, points, contacts, code, c.points, c.contacts)
		}
		x, code := impl.StairsOf(c.n, c.numbers)
		if c.text == "" {
			wantNetworkError(t, "StairsOf"+call, x, code, impl.ErrLimit)
		} else if wordsOfNetwork(x) != c.text || code != impl.ErrNone {
			t.Errorf("StairsOf%s = %s, %d, want %s, 0", call, wordsOfNetwork(x), code, c.text)
		}
	}
}

// weighedWith returns the table of weights and a bound, found by its rows.
func weighedWith(weights []int64, bound int64) impl.Table {
	return tableWith(int64(len(weights)), func(row []int64) int64 {
		sum := int64(0)
		for i, value := range row {
			if value == 1 {
				sum += weights[i]
			}
		}
		if sum < bound {
			return 0
		}
		return 1
	})
}

// allWeights returns all lists of n of some weights, in lexicographic order if the weights ascend.
func allWeights(n int64, weights []int64) [][]int64 {
	if n == 0 {
		return [][]int64{nil}
	}
	var lists [][]int64
	for _, first := range weights {
		for _, others := range allWeights(n-1, weights) {
			lists = append(lists, append([]int64{first}, others...))
		}
	}
	return lists
}

func TestTableOfWeights(t *testing.T) {
	for n := int64(1); n <= 5; n++ {
		for _, weights := range allWeights(n, []int64{0, 1, 3, 10}) {
			sum := onesIn(weights)
			for _, bound := range []int64{0, 1, 2, 3, 4, 10, 11, 13, 20, 21, max(sum-1, 0), sum, sum + 1, 50, 51, 99, 100} {
				x, code := impl.TableOfWeights(weights, bound)
				wantTable(t, fmt.Sprintf("TableOfWeights(%v, %d)", weights, bound), x, code, weighedWith(weights, bound))
			}
		}
	}
	for _, c := range []struct {
		weights []int64
		bound   int64
		text    string
	}{
		{[]int64{0}, 0, "1:11"},
		{[]int64{0}, 1, "1:00"},
		{[]int64{1}, 1, "1:01"},
		{[]int64{10}, 10, "1:01"},
		{[]int64{10}, 11, "1:00"},
		{[]int64{1, 2}, 2, "2:0011"},
		{[]int64{2, 1}, 2, "2:0101"},
		{[]int64{2, 1, 1}, 2, "3:01010111"},
		{[]int64{10, 10, 10, 10, 10}, 0, "5:11111111111111111111111111111111"},
		{[]int64{10, 10, 10, 10, 10}, 50, "5:00000000000000000000000000000001"},
		{[]int64{10, 10, 10, 10, 10}, 51, "5:00000000000000000000000000000000"},
		{[]int64{0, 0, 0, 0, 10}, 10, "5:00000000000000001111111111111111"},
		{[]int64{0, 0, 0, 0, 0}, 100, "5:00000000000000000000000000000000"},
		{[]int64{10, 10, 10, 10, 9}, 50, "5:00000000000000000000000000000000"},
		{[]int64{10, 10, 10, 10, 9}, 49, "5:00000000000000000000000000000001"},
	} {
		x, code := impl.TableOfWeights(c.weights, c.bound)
		wantTable(t, fmt.Sprintf("TableOfWeights(%v, %d)", c.weights, c.bound), x, code, tableOfText(c.text))
	}
}

func TestTableOfWeightsErrors(t *testing.T) {
	for _, weights := range [][]int64{nil, {}, {0, 0, 0, 0, 0, 0}, {1, 2, 3, 4, 5, 6}, make([]int64, 64), make([]int64, 1000)} {
		for _, bound := range []int64{0, 1, 100, -1, 101} {
			x, code := impl.TableOfWeights(weights, bound)
			wantTableError(t, fmt.Sprintf("TableOfWeights(%v, %d)", weights, bound), x, code, impl.ErrRange)
		}
	}
	for n := range 5 {
		for place := range n + 1 {
			for _, far := range append([]int64{11, 12}, farNumbers...) {
				weights := slices.Repeat([]int64{10}, n+1)
				weights[place] = far
				x, code := impl.TableOfWeights(weights, 10)
				wantTableError(t, fmt.Sprintf("TableOfWeights(%v, 10)", weights), x, code, impl.ErrRange)
			}
		}
		for _, far := range []int64{farNumbers[0], farNumbers[1], -100, -2, -1, 101, 102, 1 << 32, farNumbers[len(farNumbers)-2], farNumbers[len(farNumbers)-1]} {
			weights := slices.Repeat([]int64{1}, n+1)
			x, code := impl.TableOfWeights(weights, far)
			wantTableError(t, fmt.Sprintf("TableOfWeights(%v, %d)", weights, far), x, code, impl.ErrRange)
		}
	}
}

// foundWeights are weights with a bound.
type foundWeights struct {
	weights []int64
	bound   int64
}

// weightsOfTables returns the first weights, each in 0..3, with the first bound, of each table of n
// inputs that has some.
func weightsOfTables(n int64) map[impl.Table]foundWeights {
	found := map[impl.Table]foundWeights{}
	for _, weights := range allWeights(n, []int64{0, 1, 2, 3}) {
		for bound := range 3*n + 2 {
			x := weighedWith(weights, bound)
			if _, there := found[x]; !there {
				found[x] = foundWeights{weights, bound}
			}
		}
	}
	return found
}

// wantNoWeights fails unless the code is as wanted and the other results beside it are zero values.
func wantNoWeights(t *testing.T, x impl.Table, want int64) {
	t.Helper()
	weights, bound, code := impl.FindWeights(x)
	if len(weights) != 0 || bound != 0 || code != want {
		t.Errorf("FindWeights(%v) = %v, %d, %d, want no weights, 0, %d", x, weights, bound, code, want)
	}
}

func TestFindWeights(t *testing.T) {
	for n := int64(1); n <= 4; n++ {
		want := weightsOfTables(n)
		var tables []impl.Table
		for x := range want {
			tables = append(tables, x)
		}
		for _, x := range tablesNearSymmetry() {
			if x.Inputs == n {
				tables = append(tables, x)
			}
		}
		for _, x := range tables {
			if _, there := want[x]; !there {
				wantNoWeights(t, x, impl.ErrNotFound)
				continue
			}
			weights, bound, code := impl.FindWeights(x)
			call := fmt.Sprintf("FindWeights(%v)", x)
			wantList(t, call, weights, code, want[x].weights)
			if bound != want[x].bound {
				t.Errorf("%s: bound %d, want %d", call, bound, want[x].bound)
			}
		}
	}
}

func TestFindWeightsByHand(t *testing.T) {
	for text, want := range map[string]foundWeights{
		"1:00":               {[]int64{0}, 1},
		"1:11":               {[]int64{0}, 0},
		"1:01":               {[]int64{1}, 1},
		"2:0001":             {[]int64{1, 1}, 2},
		"2:0111":             {[]int64{1, 1}, 1},
		"2:0101":             {[]int64{1, 0}, 1},
		"2:0011":             {[]int64{0, 1}, 1},
		"3:01010111":         {[]int64{2, 1, 1}, 2},
		"3:00011111":         {[]int64{1, 1, 2}, 2},
		"4:0000000000000000": {[]int64{0, 0, 0, 0}, 1},
		"4:1111111111111111": {[]int64{0, 0, 0, 0}, 0},
		"4:0000000000000001": {[]int64{1, 1, 1, 1}, 4},
		"4:0000000100000000": {nil, 0},
		"4:0111111111111111": {[]int64{1, 1, 1, 1}, 1},
		"4:0001011111111111": {[]int64{1, 1, 1, 2}, 2},
		"4:0000000000011111": {[]int64{1, 1, 2, 3}, 5},
		"4:0000000000000111": {[]int64{1, 1, 2, 2}, 5},
		"1:10":               {nil, 0},
		"2:0110":             {nil, 0},
		"2:1001":             {nil, 0},
		"2:1000":             {nil, 0},
		"4:0001000100011111": {nil, 0}, // rising, but no weights make it
	} {
		x := tableOfText(text)
		if want.weights == nil {
			wantNoWeights(t, x, impl.ErrNotFound)
			continue
		}
		weights, bound, code := impl.FindWeights(x)
		if !slices.Equal(weights, want.weights) || bound != want.bound || code != impl.ErrNone {
			t.Errorf("FindWeights of %s = %v, %d, %d, want %v, 0", text, weights, bound, code, want)
		}
	}
	// Tables of 5 inputs are beyond the limit, with weights and without.
	for _, x := range tablesNearSymmetry() {
		if x.Inputs == 5 {
			wantNoWeights(t, x, impl.ErrLimit)
		}
	}
}

func TestIsByNumbers(t *testing.T) {
	for _, x := range append(sampleTables(), symmetricTables()...) {
		for low := range x.Inputs + 1 {
			for high := range x.Inputs + 1 {
				want := x == tableWith(x.Inputs, func(row []int64) int64 {
					if ones := onesIn(row); ones < low || ones > high {
						return 0
					}
					return 1
				})
				if got, code := impl.IsByNumbers(x, low, high); got != want || code != impl.ErrNone {
					t.Errorf("IsByNumbers(%v, %d, %d) = %v, %d, want %v, 0", x, low, high, got, code, want)
				}
			}
		}
		for _, bad := range append([]int64{x.Inputs + 1}, farNumbers...) {
			for _, pair := range [][2]int64{{bad, 0}, {0, bad}, {bad, x.Inputs}, {x.Inputs, bad}, {bad, bad}} {
				if got, code := impl.IsByNumbers(x, pair[0], pair[1]); got || code != impl.ErrRange {
					t.Errorf("IsByNumbers(%v, %d, %d) = %v, %d, want false, ErrRange", x, pair[0], pair[1], got, code)
				}
			}
		}
	}
	for _, c := range []struct {
		text string
		low  int64
		high int64
		want bool
	}{
		{"2:0111", 1, 2, true}, {"2:0111", 1, 1, false}, {"2:0111", 2, 2, false}, {"2:0111", 0, 2, false},
		{"2:0110", 1, 1, true}, {"2:0100", 1, 1, false}, {"2:1111", 0, 2, true}, {"2:1000", 0, 0, true}, {"2:1001", 0, 2, false},
		// There are no numbers from low to high if low is greater, so that no row may have 1.
		{"2:0000", 2, 1, true}, {"2:0000", 2, 0, true}, {"2:0001", 2, 1, false}, {"2:1111", 2, 0, false}, {"2:0000", 1, 1, false},
		{"5:00000000000000000000000000000000", 5, 0, true}, {"5:11111111111111111111111111111111", 5, 0, false},
		{"5:11111111111111111111111111111111", 0, 5, true}, {"5:11111111111111111111111111111110", 0, 4, true},
	} {
		if got, code := impl.IsByNumbers(tableOfText(c.text), c.low, c.high); got != c.want || code != impl.ErrNone {
			t.Errorf("IsByNumbers of %s, %d and %d = %v, %d, want %v, 0", c.text, c.low, c.high, got, code, c.want)
		}
	}
}

// TestNoSymmetricTables checks that what is no table is found ahead of all other errors.
func TestNoSymmetricTables(t *testing.T) {
	for _, x := range noTables {
		if got, code := impl.IsSymmetric(x); got || code != impl.ErrInvalid {
			t.Errorf("IsSymmetric(%v) = %v, %d, want false, ErrInvalid", x, got, code)
		}
		list, code := impl.NumbersOf(x)
		wantListError(t, fmt.Sprintf("NumbersOf(%v)", x), list, code, impl.ErrInvalid)
		if groups, code := impl.InputGroups(x); len(groups) != 0 || code != impl.ErrInvalid {
			t.Errorf("InputGroups(%v) = %v, %d, want no groups, ErrInvalid", x, groups, code)
		}
		list, code = impl.TurnsToSymmetric(x)
		wantListError(t, fmt.Sprintf("TurnsToSymmetric(%v)", x), list, code, impl.ErrInvalid)
		wantNoWeights(t, x, impl.ErrInvalid)
		for _, pair := range [][2]int64{{0, 0}, {0, 1}, {1, 0}, {-1, 0}, {0, 99}, {farNumbers[0], farNumbers[len(farNumbers)-1]}} {
			if got, code := impl.IsByNumbers(x, pair[0], pair[1]); got || code != impl.ErrInvalid {
				t.Errorf("IsByNumbers(%v, %d, %d) = %v, %d, want false, ErrInvalid", x, pair[0], pair[1], got, code)
			}
		}
	}
}

// TestSymmetricResultsAreNew writes on results, and looks at what else is there, and asks again.
func TestSymmetricResultsAreNew(t *testing.T) {
	numbers := func(n int64) []int64 { return []int64{0, 1, n} }
	calls := map[string]func(x impl.Table, given []int64) [][]int64{
		"NumbersOf": func(x impl.Table, given []int64) [][]int64 { list, _ := impl.NumbersOf(x); return [][]int64{list} },
		"PartsOfNumbers": func(x impl.Table, given []int64) [][]int64 {
			zero, one, _ := impl.PartsOfNumbers(x.Inputs, given)
			return [][]int64{zero, one}
		},
		"InputGroups": func(x impl.Table, given []int64) [][]int64 { groups, _ := impl.InputGroups(x); return groups },
		"TurnsToSymmetric": func(x impl.Table, given []int64) [][]int64 {
			list, _ := impl.TurnsToSymmetric(x)
			return [][]int64{list}
		},
		"StairsOf":    func(x impl.Table, given []int64) [][]int64 { y, _ := impl.StairsOf(x.Inputs, given); return y.Contacts },
		"FindWeights": func(x impl.Table, given []int64) [][]int64 { list, _, _ := impl.FindWeights(x); return [][]int64{list} },
	}
	for name, run := range calls {
		for _, text := range []string{"2:0111", "2:0100", "3:00011111", "3:00010111", "3:00001000", "4:0001000100011111", "5:00000000000000000000000000000001"} {
			x := tableOfText(text)
			given, unchanged := withSpare(numbers(x.Inputs))
			first := run(x, given)
			want := copyOfLists(first)
			wantApart(t, fmt.Sprintf("%s of %s", name, text), first)
			for i := range first {
				scribble(first[i])
				first[i] = nil
			}
			if !unchanged() {
				t.Errorf("%s of %s shares memory with its argument", name, text)
			}
			if again := run(x, given); !sameLists(again, want) {
				t.Errorf("%s of %s once more: %v, want %v", name, text, again, want)
			}
		}
	}
}

// TestPromise3 checks the third promise by the functions of the chapters alone.
func TestPromise3(t *testing.T) {
	for _, x := range tablesNearSymmetry() {
		symmetric, _ := impl.IsSymmetric(x)
		numbers, code := impl.NumbersOf(x)
		if symmetric != (code == impl.ErrNone) {
			t.Errorf("IsSymmetric(%v) = %v, but NumbersOf has the code %d", x, symmetric, code)
		}
		if symmetric {
			y, code := impl.SymmetricTable(x.Inputs, numbers)
			wantTable(t, fmt.Sprintf("the table with the numbers of %v", x), y, code, x)
		}
		weights, bound, code := impl.FindWeights(x)
		if code == impl.ErrNone {
			y, code := impl.TableOfWeights(weights, bound)
			wantTable(t, fmt.Sprintf("the table of the weights found for %v", x), y, code, x)
		}
		turns, code := impl.TurnsToSymmetric(x)
		if code == impl.ErrNone {
			y := x
			for _, i := range turns {
				y, _ = impl.TurnInput(y, i)
			}
			if yes, _ := impl.IsSymmetric(y); !yes {
				t.Errorf("%v turned round at %v is not symmetric", x, turns)
			}
		}
	}
	for n := int64(1); n <= 5; n++ {
		for _, numbers := range allNumbers(n) {
			x, _ := impl.SymmetricTable(n, numbers)
			again, code := impl.NumbersOf(x)
			wantList(t, fmt.Sprintf("the numbers of the table of %d with %v", n, numbers), again, code, numbers)
		}
	}
}

// TestPromise15 checks the fifteenth promise by the functions of the chapters alone.
func TestPromise15(t *testing.T) {
	built := 0
	for n := int64(1); n <= 5; n++ {
		for _, numbers := range allNumbers(n) {
			x, code := impl.StairsOf(n, numbers)
			if code != impl.ErrNone {
				continue
			}
			built++
			if !impl.IsNetwork(x) {
				t.Errorf("StairsOf(%d, %v) = %v, which is no network", n, numbers, x)
			}
			want, _ := impl.SymmetricTable(n, numbers)
			y, code := impl.TableBetween(x, n, 0, 1)
			wantTable(t, fmt.Sprintf("the table of the staircase of %d and %v", n, numbers), y, code, want)
		}
	}
	if built != 39 {
		t.Errorf("%d staircases within the limits, want 39", built)
	}
}

// TestWeightsAreMonotone checks that tables of weights rise with all inputs.
func TestWeightsAreMonotone(t *testing.T) {
	for n := int64(1); n <= 5; n++ {
		for _, weights := range allWeights(n, []int64{0, 2, 3, 7}) {
			for bound := int64(0); bound <= 100; bound += 4 {
				x, _ := impl.TableOfWeights(weights, bound)
				if yes, code := impl.IsMonotone(x); !yes || code != impl.ErrNone {
					t.Errorf("the table of %v and %d: monotone %v, code %d", weights, bound, yes, code)
				}
			}
		}
	}
}
