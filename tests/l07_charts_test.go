package tests

import (
	"fmt"
	"math"
	"math/rand"
	"slices"
	"strings"
	"testing"

	"loop.example/g01392/impl"
)

// chartOf returns the chart whose rows have these words as places: the row that follows or `-`, and
// the output or nothing.
func chartOf(rows ...string) impl.Chart {
	var x impl.Chart
	for _, row := range rows {
		var next, outs []int64
		for _, word := range strings.Fields(row) {
			number, out := int64(-1), int64(-1)
			if word[0] != '-' {
				number = int64(word[0] - '0')
			}
			if len(word) > 1 {
				out = int64(word[2] - '0')
			}
			next, outs = append(next, number), append(outs, out)
		}
		x.Columns = int64(len(next))
		x.Next, x.Outs = append(x.Next, next), append(x.Outs, outs)
	}
	return x
}

// chartOfLine returns the chart of one column whose rows have these words as places.
func chartOfLine(words string) impl.Chart {
	return chartOf(strings.Fields(words)...)
}

// emptyChart returns the chart of so many rows and columns in which nothing is told.
func emptyChart(rows int64, columns int64) impl.Chart {
	return chartWith(rows, columns, func(row int64, column int64) (int64, int64) { return -1, -1 })
}

// chartWith returns the chart whose rows that follow and outputs are told by a row and a column.
func chartWith(rows int64, columns int64, place func(row int64, column int64) (int64, int64)) impl.Chart {
	x := impl.Chart{Columns: columns}
	for row := range rows {
		var next, outs []int64
		for column := range columns {
			number, out := place(row, column)
			next, outs = append(next, number), append(outs, out)
		}
		x.Next, x.Outs = append(x.Next, next), append(x.Outs, outs)
	}
	return x
}

// exampleChart has places that stay and such as do not, and rows of which some go together.
func exampleChart() impl.Chart { return chartOf("0/0 1", "2 1/0", "2/1 -", "2 0") }

// cubeChart has a row for each code of three digits, which is followed by those next to it.
func cubeChart() impl.Chart {
	return chartWith(8, 3, func(row int64, column int64) (int64, int64) { return row ^ 1<<column, -1 })
}

// allCharts returns all charts of so many rows and columns.
func allCharts(rows int64, columns int64) []impl.Chart {
	count := int64(1)
	for range rows * columns {
		count *= 3 * (rows + 1)
	}
	var list []impl.Chart
	for number := range count {
		list = append(list, chartWith(rows, columns, func(row int64, column int64) (int64, int64) {
			place := number % (3 * (rows + 1))
			number /= 3 * (rows + 1)
			return place/3 - 1, place%3 - 1
		}))
	}
	return list
}

// chartFrom returns a chart from a sequence. The shares, of 12, tell how often a row that follows
// and an output are told, and how often a place with one stays.
func chartFrom(source *rand.Rand, rows int64, columns int64, told int, outs int, stays int) impl.Chart {
	return chartWith(rows, columns, func(row int64, column int64) (int64, int64) {
		next, out := source.Int63n(rows), source.Int63n(2)
		if source.Intn(12) < stays {
			next = row
		}
		if source.Intn(12) >= told {
			next = -1
		}
		if source.Intn(12) >= outs {
			out = -1
		}
		return next, out
	})
}

// sampleCharts returns all charts with one column and up to three rows, or with one row and two
// columns, and for all numbers of rows and columns such in which nothing is told, in which all
// places stay, in which the rows follow one another and come round, and others from a fixed
// sequence.
func sampleCharts() []impl.Chart {
	list := slices.Concat(allCharts(1, 1), allCharts(1, 2), allCharts(2, 1), allCharts(3, 1))
	source := rand.New(rand.NewSource(7))
	for rows := int64(1); rows <= 8; rows++ {
		for columns := int64(1); columns <= 4; columns++ {
			staying := func(row int64, column int64) (int64, int64) { return row, -1 }
			round := func(row int64, column int64) (int64, int64) { return (row + 1) % rows, column%3 - 1 }
			line := func(row int64, column int64) (int64, int64) { return min(row+1, rows-1), -1 }
			list = append(list, emptyChart(rows, columns), chartWith(rows, columns, staying), chartWith(rows, columns, round), chartWith(rows, columns, line))
			for _, shares := range [][3]int{{12, 12, 5}, {12, 2, 5}, {12, 1, 0}, {9, 3, 3}, {4, 1, 2}, {2, 6, 1}, {12, 9, 1}} {
				for range 6 {
					list = append(list, chartFrom(source, rows, columns, shares[0], shares[1], shares[2]))
				}
			}
		}
	}
	return list
}

// noCharts are values of the type Chart that are no charts.
func noCharts() []impl.Chart {
	list := []impl.Chart{
		{}, {Columns: 1}, {Columns: 4}, {Columns: 1, Next: [][]int64{{0}}}, {Columns: 1, Outs: [][]int64{{0}}},
		{Columns: 1, Next: [][]int64{}, Outs: [][]int64{}}, {Columns: 0, Next: [][]int64{{}}, Outs: [][]int64{{}}}, {Columns: 0, Next: [][]int64{nil}, Outs: [][]int64{nil}},
		emptyChart(9, 1), emptyChart(9, 4), emptyChart(1, 5), emptyChart(8, 5), emptyChart(1000, 1), emptyChart(1, 1000), emptyChart(64, 64),
	}
	for _, far := range append(farBeyond(4), 0) {
		for _, x := range []impl.Chart{emptyChart(1, 1), emptyChart(2, 4), emptyChart(6, 4), emptyChart(8, 4), {Next: [][]int64{nil}, Outs: [][]int64{nil}}, {}} {
			x.Columns = far
			list = append(list, x)
		}
	}
	for rows := int64(1); rows <= 8; rows++ {
		for columns := int64(1); columns <= 4; columns++ {
			list = append(list, damagedCharts(rows, columns)...)
		}
	}
	return list
}

// damagedCharts returns what is no chart of so many rows and columns, because of one number, of one
// row, or of the number of rows or of columns.
func damagedCharts(rows int64, columns int64) []impl.Chart {
	var list []impl.Chart
	damaged := func(damage func(x *impl.Chart)) {
		x := emptyChart(rows, columns)
		damage(&x)
		list = append(list, x)
	}
	damaged(func(x *impl.Chart) { x.Next = x.Next[1:] })
	damaged(func(x *impl.Chart) { x.Outs = x.Outs[1:] })
	damaged(func(x *impl.Chart) { x.Next = append(x.Next, x.Next[0]) })
	damaged(func(x *impl.Chart) { x.Outs = append(x.Outs, x.Outs[0]) })
	damaged(func(x *impl.Chart) { x.Columns++ })
	damaged(func(x *impl.Chart) { x.Columns-- })
	for row := range rows {
		damaged(func(x *impl.Chart) { x.Next[row] = nil })
		damaged(func(x *impl.Chart) { x.Outs[row] = nil })
		damaged(func(x *impl.Chart) { x.Next[row] = append(x.Next[row], 0) })
		damaged(func(x *impl.Chart) { x.Outs[row] = append(x.Outs[row], 0) })
		damaged(func(x *impl.Chart) { x.Next[row] = x.Next[row][1:] })
		damaged(func(x *impl.Chart) { x.Outs[row] = x.Outs[row][1:] })
	}
	place := func(number int64) (int64, int64) { return number % rows, number / rows % columns }
	for at, far := range []int64{-2, -3, rows, rows + 1, math.MinInt64, math.MinInt64 + 1, math.MaxInt64 - 1, math.MaxInt64} {
		row, column := place(int64(at))
		damaged(func(x *impl.Chart) { x.Next[row][column] = far })
		damaged(func(x *impl.Chart) { x.Next[rows-1][columns-1] = far })
	}
	for at, far := range []int64{-2, -3, 2, 3, math.MinInt64, math.MinInt64 + 1, math.MaxInt64 - 1, math.MaxInt64} {
		row, column := place(int64(at))
		damaged(func(x *impl.Chart) { x.Outs[row][column] = far })
		damaged(func(x *impl.Chart) { x.Outs[rows-1][columns-1] = far })
	}
	return list
}

// copyOfChart returns a chart with new memory.
func copyOfChart(x impl.Chart) impl.Chart {
	return impl.Chart{Columns: x.Columns, Next: copyOfLists(x.Next), Outs: copyOfLists(x.Outs)}
}

// spareChart returns the same chart with spare capacity behind all of its lists, and a function that
// reports whether all of it is as it was.
func spareChart(x impl.Chart) (impl.Chart, func() bool) {
	next, unchanged := spareLists(x.Next)
	outs, stayed := spareLists(x.Outs)
	return impl.Chart{Columns: x.Columns, Next: next, Outs: outs}, func() bool { return unchanged() && stayed() }
}

// sameChart reports whether two charts are equal.
func sameChart(x impl.Chart, y impl.Chart) bool {
	return x.Columns == y.Columns && sameLists(x.Next, y.Next) && sameLists(x.Outs, y.Outs)
}

// wantChart fails unless a chart and a code are as wanted.
func wantChart(t *testing.T, call string, got impl.Chart, code int64, want impl.Chart) {
	t.Helper()
	if !sameChart(got, want) || code != impl.ErrNone {
		t.Errorf("%s = %v, %d, want %v, 0", call, got, code, want)
	}
}

// wantChartError fails unless the code is as wanted and the chart beside it the zero value.
func wantChartError(t *testing.T, call string, got impl.Chart, code int64, want int64) {
	t.Helper()
	if !sameChart(got, impl.Chart{}) || code != want {
		t.Errorf("%s = %v, %d, want the zero value, %d", call, got, code, want)
	}
}

// wantListsError fails unless the code is as wanted and the list of lists beside it empty.
func wantListsError(t *testing.T, call string, got [][]int64, code int64, want int64) {
	t.Helper()
	if len(got) != 0 || code != want {
		t.Errorf("%s = %v, %d, want no lists, %d", call, got, code, want)
	}
}

// wantBoolError fails unless the code is as wanted and the answer beside it false.
func wantBoolError(t *testing.T, call string, got bool, code int64, want int64) {
	t.Helper()
	if got || code != want {
		t.Errorf("%s = %v, %d, want false, %d", call, got, code, want)
	}
}

// wantKinds fails unless there were enough samples of each kind.
func wantKinds(t *testing.T, kinds map[string]int, wanted ...string) {
	t.Helper()
	for _, kind := range wanted {
		if kinds[kind] < 20 {
			t.Errorf("%s: just %d samples", kind, kinds[kind])
		}
	}
}

func TestChartLimits(t *testing.T) {
	asBytes := []byte{impl.MaxRows, impl.MaxColumns, impl.MaxMerged, impl.MaxDigits}
	asFloats := []float64{impl.MaxRows, impl.MaxColumns, impl.MaxMerged, impl.MaxDigits}
	if !slices.Equal(asBytes, []byte{8, 4, 5, 4}) || !slices.Equal(asFloats, []float64{8, 4, 5, 4}) {
		t.Errorf("MaxRows, MaxColumns, MaxMerged, MaxDigits: %v", asBytes)
	}
}

func TestIsChart(t *testing.T) {
	for _, x := range sampleCharts() {
		if !impl.IsChart(x) {
			t.Errorf("IsChart(%v) is false", x)
		}
	}
	for rows := range int64(11) {
		for columns := range int64(7) {
			want := rows >= 1 && rows <= 8 && columns >= 1 && columns <= 4
			if got := impl.IsChart(emptyChart(rows, columns)); got != want {
				t.Errorf("IsChart with %d rows and %d columns = %v", rows, columns, got)
			}
			for next := int64(-3); next <= 10; next++ {
				x := chartWith(rows, columns, func(row int64, column int64) (int64, int64) { return next, next % 2 })
				want := want && next >= -1 && next < rows
				if got := impl.IsChart(x); got != want {
					t.Errorf("IsChart(%v) = %v", x, got)
				}
			}
		}
	}
	for _, x := range noCharts() {
		if impl.IsChart(x) {
			t.Errorf("IsChart(%v) is true", x)
		}
	}
}

func TestStayingPlaces(t *testing.T) {
	kinds := map[string]int{}
	for _, x := range sampleCharts() {
		var want [][]int64
		for row, next := range x.Next {
			for column, follows := range next {
				if follows == int64(row) {
					want = append(want, []int64{int64(row), int64(column)})
				}
			}
		}
		got, code := impl.StayingPlaces(x)
		wantLists(t, fmt.Sprintf("StayingPlaces(%v)", x), got, code, want)
		switch places := len(x.Next) * int(x.Columns); len(got) {
		case 0:
			kinds["no places"]++
		case places:
			kinds["all places"]++
		default:
			kinds["some places"]++
		}
	}
	wantKinds(t, kinds, "no places", "all places", "some places")
	got, code := impl.StayingPlaces(exampleChart())
	wantLists(t, "StayingPlaces of the example", got, code, [][]int64{{0, 0}, {1, 1}, {2, 0}})
	got, code = impl.StayingPlaces(chartOf("1 0 - 0/1", "1/0 0 1 -"))
	wantLists(t, "StayingPlaces", got, code, [][]int64{{0, 1}, {0, 3}, {1, 0}, {1, 2}})
}

// chainWith returns the chain from a row in a column, and why it ends. It takes no more steps than
// there are rows, as a row has come again then.
func chainWith(x impl.Chart, row int64, column int64) ([]int64, string) {
	var chain []int64
	for range x.Next {
		chain = append(chain, row)
		follows := x.Next[row][column]
		if follows < 0 {
			return nil, "none is told"
		}
		if follows == row {
			return chain, "stays"
		}
		row = follows
	}
	return nil, "comes round"
}

func TestChainFrom(t *testing.T) {
	kinds := map[string]int{}
	for _, x := range sampleCharts() {
		for row := range int64(len(x.Next)) {
			for column := range x.Columns {
				call := fmt.Sprintf("ChainFrom(%v, %d, %d)", x, row, column)
				want, end := chainWith(x, row, column)
				got, code := impl.ChainFrom(x, row, column)
				kinds[end]++
				if end != "stays" {
					wantListError(t, call, got, code, impl.ErrNotFound)
					continue
				}
				wantList(t, call, got, code, want)
				kinds[fmt.Sprintf("%d rows", len(want))]++
				if len(want) == len(x.Next) {
					kinds["all rows"]++
				}
			}
		}
	}
	wantKinds(t, kinds, "stays", "none is told", "comes round", "1 rows", "2 rows", "3 rows", "5 rows", "all rows")
}

func TestChainsByHand(t *testing.T) {
	for _, c := range []struct {
		x           impl.Chart
		row, column int64
		want        []int64
	}{
		{chartOfLine("0"), 0, 0, []int64{0}},
		{chartOfLine("-"), 0, 0, nil},
		{chartOfLine("-/1"), 0, 0, nil},
		{exampleChart(), 0, 0, []int64{0}}, {exampleChart(), 0, 1, []int64{0, 1}}, {exampleChart(), 1, 0, []int64{1, 2}}, {exampleChart(), 1, 1, []int64{1}},
		{exampleChart(), 2, 0, []int64{2}}, {exampleChart(), 2, 1, nil}, {exampleChart(), 3, 0, []int64{3, 2}}, {exampleChart(), 3, 1, []int64{3, 0, 1}},
		{chartOfLine("1 2 3 4 5 6 7 7"), 0, 0, []int64{0, 1, 2, 3, 4, 5, 6, 7}},
		{chartOfLine("0 0 1 2 3 4 5 6"), 7, 0, []int64{7, 6, 5, 4, 3, 2, 1, 0}},
		{chartOfLine("1 2 3 4 5 6 7 7"), 7, 0, []int64{7}},
		// A chain comes round to the row that it began with, through two rows and through all, or to
		// another one, or meets a place where none is told.
		{chartOfLine("1 0"), 0, 0, nil}, {chartOfLine("1 0"), 1, 0, nil},
		{chartOfLine("1 2 3 4 5 6 7 0"), 3, 0, nil},
		{chartOfLine("1 2 1"), 0, 0, nil}, {chartOfLine("1 2 3 4 5 6 7 6"), 0, 0, nil},
		{chartOfLine("1 -"), 0, 0, nil}, {chartOfLine("1 2 3 4 5 6 7 -"), 0, 0, nil},
		{chartOfLine("3 0 2 2"), 1, 0, []int64{1, 0, 3, 2}},
		{chartOf("1 - - 1", "2 - - 0", "0 - - 2"), 0, 3, nil},
		{chartOf("1 - - 1", "2 - - 2", "0 - - 2"), 0, 3, []int64{0, 1, 2}},
	} {
		call := fmt.Sprintf("ChainFrom(%v, %d, %d)", c.x, c.row, c.column)
		got, code := impl.ChainFrom(c.x, c.row, c.column)
		if c.want == nil {
			wantListError(t, call, got, code, impl.ErrNotFound)
		} else {
			wantList(t, call, got, code, c.want)
		}
	}
}

// runWithChains returns the rows and the outputs of a run, and whether there are chains in all columns.
func runWithChains(x impl.Chart, row int64, columns []int64) ([]int64, []int64, bool) {
	var rows, outs []int64
	for _, column := range columns {
		chain, end := chainWith(x, row, column)
		if end != "stays" {
			return nil, nil, false
		}
		row = chain[len(chain)-1]
		rows, outs = append(rows, row), append(outs, x.Outs[row][column])
	}
	return rows, outs, true
}

// wantRunOver fails unless a run over columns is as wanted, or there is none if no rows are wanted.
func wantRunOver(t *testing.T, x impl.Chart, row int64, columns []int64, rows []int64, outs []int64, wanted int64) {
	t.Helper()
	gotRows, gotOuts, code := impl.RunOver(x, row, columns)
	if !slices.Equal(gotRows, rows) || !slices.Equal(gotOuts, outs) || code != wanted {
		t.Errorf("RunOver(%v, %d, %v) = %v, %v, %d, want %v, %v, %d", x, row, columns, gotRows, gotOuts, code, rows, outs, wanted)
	}
}

func TestRunOver(t *testing.T) {
	kinds := map[string]int{}
	source := rand.New(rand.NewSource(71))
	for _, x := range sampleCharts() {
		for row := range int64(len(x.Next)) {
			for _, count := range []int{0, 1, 2, 3, 5, 100} {
				columns := make([]int64, count)
				for i := range columns {
					columns[i] = source.Int63n(x.Columns)
				}
				rows, outs, runs := runWithChains(x, row, columns)
				if runs {
					wantRunOver(t, x, row, columns, rows, outs, impl.ErrNone)
				} else {
					wantRunOver(t, x, row, columns, nil, nil, impl.ErrNotFound)
				}
				kinds[fmt.Sprintf("%d columns: %v", count, runs)]++
				for _, out := range outs {
					kinds[fmt.Sprintf("output %d", out)]++
				}
				if _, _, begins := runWithChains(x, row, columns[:min(count, 1)]); begins && !runs {
					kinds["a chain, but not in all columns"]++
				}
			}
		}
	}
	wantKinds(t, kinds, "0 columns: true", "1 columns: true", "1 columns: false", "5 columns: true", "5 columns: false", "100 columns: true", "100 columns: false", "output -1", "output 0", "output 1", "a chain, but not in all columns")
}

func TestRunsByHand(t *testing.T) {
	x := exampleChart()
	wantRunOver(t, x, 0, []int64{0, 1, 0}, []int64{0, 1, 2}, []int64{0, 0, 1}, impl.ErrNone)
	wantRunOver(t, x, 3, []int64{1, 1, 0, 0}, []int64{1, 1, 2, 2}, []int64{0, 0, 1, 1}, impl.ErrNone)
	// No chain in the column 1 from the row 2, where the run is behind the column 0.
	wantRunOver(t, x, 1, []int64{0, 1}, nil, nil, impl.ErrNotFound)
	wantRunOver(t, x, 1, []int64{1, 0, 0, 1, 0}, nil, nil, impl.ErrNotFound)
	wantRunOver(t, x, 2, []int64{1}, nil, nil, impl.ErrNotFound)
	// A run over no column needs no chain.
	wantRunOver(t, x, 2, nil, nil, nil, impl.ErrNone)
	wantRunOver(t, emptyChart(8, 4), 7, []int64{}, nil, nil, impl.ErrNone)
	// Outputs are those at the end of a chain, and -1 if none is told there.
	wantRunOver(t, chartOfLine("1/0 2/1 2"), 0, []int64{0, 0}, []int64{2, 2}, []int64{-1, -1}, impl.ErrNone)
	wantRunOver(t, chartOf("1/0 0", "1/1 0/0"), 0, []int64{0, 1, 1}, []int64{1, 0, 0}, []int64{1, -1, -1}, impl.ErrNone)
	wantRunOver(t, chartOfLine("0/1"), 0, make([]int64, 100), make([]int64, 100), slices.Repeat([]int64{1}, 100), impl.ErrNone)
	wantRunOver(t, chartOfLine("0/1"), 0, make([]int64, 101), nil, nil, impl.ErrRange)
	wantRunOver(t, chartOfLine("-"), 0, make([]int64, 101), nil, nil, impl.ErrRange)
	wantRunOver(t, chartOfLine("-"), 0, make([]int64, 100), nil, nil, impl.ErrNotFound)
	wantRunOver(t, chartOfLine("0/1"), 0, make([]int64, 100000), nil, nil, impl.ErrRange)
}

// rowsOfSet returns the rows of a set with a number, ascending.
func rowsOfSet(set int) []int64 {
	rows := []int64{}
	for row, digit := range digitsOf(int64(set), 8) {
		if digit == 1 {
			rows = append(rows, int64(row))
		}
	}
	return rows
}

// followingWith returns the rows that follow some rows in a column, ascending.
func followingWith(x impl.Chart, rows []int64, column int64) []int64 {
	var list []int64
	for _, row := range rows {
		if next := x.Next[row][column]; next >= 0 {
			list = append(list, next)
		}
	}
	slices.Sort(list)
	return slices.Compact(list)
}

// differWith reports whether some rows have outputs 0 and 1 in a column.
func differWith(x impl.Chart, rows []int64) bool {
	for column := range x.Columns {
		var outs []int64
		for _, row := range rows {
			outs = append(outs, x.Outs[row][column])
		}
		if slices.Contains(outs, 0) && slices.Contains(outs, 1) {
			return true
		}
	}
	return false
}

// apartWith returns for each set of rows, by its number, behind how many steps it leads to outputs
// that differ, at the least, or -1 if it goes together. It looks at whole sets, not at pairs.
func apartWith(x impl.Chart) []int {
	apart := make([]int, 1<<len(x.Next))
	leads := make([][]int64, len(apart))
	for set := range apart {
		apart[set] = -1
		if differWith(x, rowsOfSet(set)) {
			apart[set] = 0
		}
		for column := range x.Columns {
			leads[set] = append(leads[set], numberOfSet(followingWith(x, rowsOfSet(set), column)))
		}
	}
	for steps, changed := 1, true; changed; steps++ {
		changed = false
		for set := range apart {
			for _, next := range leads[set] {
				if apart[set] < 0 && apart[next] == steps-1 {
					apart[set], changed = steps, true
				}
			}
		}
	}
	return apart
}

// comesRound reports whether a pair of rows leads to another pair that has come before.
func comesRound(x impl.Chart, pair []int64, before [][]int64) bool {
	if slices.ContainsFunc(before, func(other []int64) bool { return slices.Equal(pair, other) }) {
		return true
	}
	for column := range x.Columns {
		next := followingWith(x, pair, column)
		if len(next) == 2 && comesRound(x, next, append(before, pair)) {
			return true
		}
	}
	return false
}

func TestPairsTogether(t *testing.T) {
	kinds := map[string]int{}
	for _, x := range sampleCharts() {
		apart := apartWith(x)
		var want [][]int64
		for a := range int64(len(x.Next)) {
			for b := a + 1; b < int64(len(x.Next)); b++ {
				steps := apart[1<<a|1<<b]
				if steps < 0 {
					want = append(want, []int64{a, b})
				}
				kinds[kindOfPair(x, a, b, steps)]++
			}
		}
		got, code := impl.PairsTogether(x)
		wantLists(t, fmt.Sprintf("PairsTogether(%v)", x), got, code, want)
	}
	wantKinds(t, kinds, "apart at once", "apart behind 1 steps", "apart behind 2 steps", "apart behind 4 steps", "together", "together, coming round", "together, with the same row that follows", "apart at once, with the same row that follows")
}

// kindOfPair tells what is known of two rows that are apart behind some steps, or together.
func kindOfPair(x impl.Chart, a int64, b int64, steps int) string {
	kind := "together"
	switch {
	case steps == 0:
		kind = "apart at once"
	case steps > 0:
		kind = fmt.Sprintf("apart behind %d steps", steps)
	case len(x.Next) <= 4 && comesRound(x, []int64{a, b}, nil):
		return "together, coming round"
	}
	if x.Columns == 1 && x.Next[a][0] == x.Next[b][0] && x.Next[a][0] >= 0 {
		kind += ", with the same row that follows"
	}
	return kind
}

// knownSets has what is known of the rows of a chart: the pairs that go together, the greatest sets,
// and the first cover of the fewest sets.
type knownSets struct {
	x        impl.Chart
	pairs    [][]int64
	greatest [][]int64
	fewest   [][]int64
}

// setsByHand are charts whose sets are known by hand.
var setsByHand = []knownSets{
	{chartOfLine("-"), nil, [][]int64{{0}}, [][]int64{{0}}},
	{chartOfLine("0/1"), nil, [][]int64{{0}}, [][]int64{{0}}},
	{exampleChart(), [][]int64{{1, 2}, {2, 3}}, [][]int64{{0}, {1, 2}, {2, 3}}, [][]int64{{0}, {1}, {2, 3}}},
	{chartOf("0/0 -", "0 1/1", "- 1"), [][]int64{{0, 1}, {0, 2}, {1, 2}}, [][]int64{{0, 1, 2}}, [][]int64{{0, 1, 2}}},
	// Outputs differ at once, behind one step, two and three.
	{chartOfLine("1 2 3 3/1 4/0"), [][]int64{{0, 1}, {0, 2}, {0, 3}, {1, 2}, {1, 3}, {2, 3}}, [][]int64{{0, 1, 2, 3}, {4}}, [][]int64{{0, 1, 2, 3}, {4}}},
	// Pairs lead round to each other, and to one another's pair.
	{chartOfLine("1 0"), [][]int64{{0, 1}}, [][]int64{{0, 1}}, [][]int64{{0, 1}}},
	{chartOfLine("2/0 3/0 0/1 1/1"), [][]int64{{0, 1}, {2, 3}}, [][]int64{{0, 1}, {2, 3}}, [][]int64{{0, 1}, {2, 3}}},
	{chartOfLine("2/0 3/0 0/1 1"), [][]int64{{0, 1}, {1, 3}, {2, 3}}, [][]int64{{0, 1}, {1, 3}, {2, 3}}, [][]int64{{0, 1}, {2, 3}}},
	// Pairs lead to the same row.
	{chartOfLine("2/0 2/0 2/1"), [][]int64{{0, 1}}, [][]int64{{0, 1}, {2}}, [][]int64{{0, 1}, {2}}},
	{chartOfLine("2/0 2/1 2"), [][]int64{{0, 2}, {1, 2}}, [][]int64{{0, 2}, {1, 2}}, [][]int64{{0}, {1, 2}}},
	// The set of the row 0 comes first, though it is in a greater one that would do as well.
	{chartOfLine("-/0 - -/1"), [][]int64{{0, 1}, {1, 2}}, [][]int64{{0, 1}, {1, 2}}, [][]int64{{0}, {1, 2}}},
	{chartOfLine("-/0 -/1"), nil, [][]int64{{0}, {1}}, [][]int64{{0}, {1}}},
	{chartOfLine("-/1 - - - -/0"), [][]int64{{0, 1}, {0, 2}, {0, 3}, {1, 2}, {1, 3}, {1, 4}, {2, 3}, {2, 4}, {3, 4}}, [][]int64{{0, 1, 2, 3}, {1, 2, 3, 4}}, [][]int64{{0}, {1, 2, 3, 4}}},
	// The set of the row 2 alone would come first, but 0 and 1 lead to 2 and 3.
	{chartOfLine("2/0 3/0 -/1 -"), [][]int64{{0, 1}, {0, 3}, {1, 3}, {2, 3}}, [][]int64{{0, 1, 3}, {2, 3}}, [][]int64{{0, 1}, {2, 3}}},
	// Three pairs have all rows, but each pair leads to another one, and in the end to all five.
	{chartOfLine("3/0 2/0 0/1 4 1"), [][]int64{{0, 1}, {0, 4}, {1, 3}, {2, 3}, {2, 4}}, [][]int64{{0, 1}, {0, 4}, {1, 3}, {2, 3}, {2, 4}}, [][]int64{{0}, {1}, {2}, {3}, {4}}},
}

func TestSetsByHand(t *testing.T) {
	for _, c := range setsByHand {
		got, code := impl.PairsTogether(c.x)
		wantLists(t, fmt.Sprintf("PairsTogether(%v)", c.x), got, code, c.pairs)
		got, code = impl.GreatestSets(c.x)
		wantLists(t, fmt.Sprintf("GreatestSets(%v)", c.x), got, code, c.greatest)
		got, code = impl.FewestSets(c.x)
		wantLists(t, fmt.Sprintf("FewestSets(%v)", c.x), got, code, c.fewest)
	}
}

// TestManySetsByHand looks at charts of MaxRows rows, which have more sets than rows in the end.
func TestManySetsByHand(t *testing.T) {
	got, code := impl.GreatestSets(chartOfLine("-/0 - - - - - - -/1"))
	wantLists(t, "GreatestSets", got, code, [][]int64{{0, 1, 2, 3, 4, 5, 6}, {1, 2, 3, 4, 5, 6, 7}})
	got, code = impl.GreatestSets(emptyChart(8, 4))
	wantLists(t, "GreatestSets", got, code, [][]int64{{0, 1, 2, 3, 4, 5, 6, 7}})
	got, code = impl.GreatestSets(chartOf("-/0 - - -", "-/1 - - -", "- -/0 - -", "- -/1 - -", "- - -/0 -", "- - -/1 -", "- - - -/0", "- - - -/1"))
	wantLists(t, "GreatestSets", got, code, [][]int64{
		{0, 2, 4, 6}, {0, 2, 4, 7}, {0, 2, 5, 6}, {0, 2, 5, 7}, {0, 3, 4, 6}, {0, 3, 4, 7}, {0, 3, 5, 6}, {0, 3, 5, 7},
		{1, 2, 4, 6}, {1, 2, 4, 7}, {1, 2, 5, 6}, {1, 2, 5, 7}, {1, 3, 4, 6}, {1, 3, 4, 7}, {1, 3, 5, 6}, {1, 3, 5, 7},
	})
	// A list is ahead of one that has it as its beginning, and of one with a greater first row.
	got, code = impl.GreatestSets(chartOf("-/0 -", "- -", "- -/0", "-/1 -/1"))
	wantLists(t, "GreatestSets", got, code, [][]int64{{0, 1, 2}, {1, 3}})
	got, code = impl.GreatestSets(chartOf("-/0 -", "-/1 -/0", "- -/1", "- -"))
	wantLists(t, "GreatestSets", got, code, [][]int64{{0, 2, 3}, {1, 3}})
}

func TestGoTogether(t *testing.T) {
	kinds := map[string]int{}
	for _, x := range sampleCharts() {
		for set, apart := range apartWith(x) {
			rows := rowsOfSet(set)
			got, code := impl.GoTogether(x, rows)
			wantBool(t, fmt.Sprintf("GoTogether(%v, %v)", x, rows), got, code, apart < 0)
			kinds[fmt.Sprintf("%d rows: %v", len(rows), got)]++
			if len(rows) == len(x.Next) && len(rows) > 2 {
				kinds[fmt.Sprintf("all rows: %v", got)]++
			}
		}
	}
	wantKinds(t, kinds, "0 rows: true", "1 rows: true", "2 rows: true", "2 rows: false", "4 rows: true", "4 rows: false", "8 rows: true", "8 rows: false", "all rows: true", "all rows: false")
	if kinds["0 rows: false"] > 0 || kinds["1 rows: false"] > 0 {
		t.Errorf("no row, or one row, does not go together: %v", kinds)
	}
}

// greatestWith returns the sets that go together and are in no greater one that does.
func greatestWith(x impl.Chart) [][]int64 {
	apart := apartWith(x)
	var list [][]int64
	for set := range apart {
		greater := slices.IndexFunc(apart, func(steps int) bool { return steps < 0 })
		for ; greater < len(apart); greater++ {
			if apart[greater] < 0 && greater != set && greater&set == set {
				break
			}
		}
		if set > 0 && apart[set] < 0 && greater == len(apart) {
			list = append(list, rowsOfSet(set))
		}
	}
	slices.SortFunc(list, slices.Compare)
	return list
}

func TestGreatestSets(t *testing.T) {
	kinds := map[string]int{}
	for _, x := range sampleCharts() {
		want := greatestWith(x)
		got, code := impl.GreatestSets(x)
		wantLists(t, fmt.Sprintf("GreatestSets(%v)", x), got, code, want)
		rows := 0
		for _, set := range want {
			rows += len(set)
			kinds[fmt.Sprintf("%d rows", len(set))]++
		}
		if len(want) == 1 && rows > 1 {
			kinds["all rows"]++
		}
		if rows > len(x.Next) {
			kinds["overlapping"]++
		}
		if len(want) > 8 {
			kinds["more sets than rows"]++
		}
	}
	wantKinds(t, kinds, "1 rows", "2 rows", "3 rows", "5 rows", "8 rows", "all rows", "overlapping")
}

// hasRows reports whether a set has some rows.
func hasRows(set []int64, rows []int64) bool {
	return !slices.ContainsFunc(rows, func(row int64) bool { return !slices.Contains(set, row) })
}

// setWith returns the number of the first set that has some rows, or -1.
func setWith(sets [][]int64, rows []int64) int64 {
	return int64(slices.IndexFunc(sets, func(set []int64) bool { return hasRows(set, rows) }))
}

// lackIn returns rows that have to be in one of the sets, and are not, or none if there are no such
// rows, and what they are.
func lackIn(x impl.Chart, sets [][]int64) ([]int64, string) {
	for row := range int64(len(x.Next)) {
		if setWith(sets, []int64{row}) < 0 {
			return []int64{row}, "a row in no set"
		}
	}
	for _, set := range sets {
		for column := range x.Columns {
			if next := followingWith(x, set, column); setWith(sets, next) < 0 {
				return next, "rows that follow in no set together"
			}
		}
	}
	return nil, "a cover"
}

// coverKind tells whether sets are a cover, or why they are none.
func coverKind(x impl.Chart, apart []int, sets [][]int64) string {
	for _, set := range sets {
		if apart[numberOfSet(set)] >= 0 {
			return "a set that does not go together"
		}
	}
	_, kind := lackIn(x, sets)
	return kind
}

// oneByOne returns the sets of one row each.
func oneByOne(rows int64) [][]int64 {
	var sets [][]int64
	for row := range rows {
		sets = append(sets, []int64{row})
	}
	return sets
}

// sampleSets returns lists of sets of rows of a chart that have the form of covers: no set, one set,
// sets of one row, the greatest sets, also from the last one on, with one of them left out or twice,
// and others from a sequence that go together or do not.
func sampleSets(source *rand.Rand, x impl.Chart) [][][]int64 {
	n := int64(len(x.Next))
	all := rowsOfSet(1<<n - 1)
	list := [][][]int64{nil, {all}, {all, all}, slices.Repeat([][]int64{all}, 8), slices.Repeat([][]int64{{0}}, 8), oneByOne(n), oneByOne(n)[1:]}
	if greatest := greatestWith(x); len(greatest) <= 7 {
		back := slices.Clone(greatest)
		slices.Reverse(back)
		at := source.Intn(len(greatest))
		list = append(list, greatest, back, slices.Delete(slices.Clone(greatest), at, at+1), append(slices.Clone(greatest), greatest[at]), append(back[:len(back):len(back)], []int64{source.Int63n(n)}))
	}
	together := togetherSets(x)
	for range 6 {
		var sets, others [][]int64
		for range 1 + source.Intn(8) {
			sets = append(sets, together[source.Intn(len(together))])
			others = append(others, rowsOfSet(1+source.Intn(1<<n-1)))
		}
		list = append(list, sets, others)
	}
	return list
}

// mergedWith returns the merged chart of a cover.
func mergedWith(x impl.Chart, sets [][]int64) impl.Chart {
	return chartWith(int64(len(sets)), x.Columns, func(row int64, column int64) (int64, int64) {
		next, out := int64(-1), int64(-1)
		if rows := followingWith(x, sets[row], column); len(rows) > 0 {
			next = setWith(sets, rows)
		}
		for _, member := range sets[row] {
			if told := x.Outs[member][column]; told >= 0 {
				out = told
			}
		}
		return next, out
	})
}

func TestCoversAndMergedCharts(t *testing.T) {
	kinds := map[string]int{}
	source := rand.New(rand.NewSource(72))
	for _, x := range sampleCharts() {
		apart := apartWith(x)
		for _, sets := range sampleSets(source, x) {
			kind := coverKind(x, apart, sets)
			got, code := impl.IsCover(x, sets)
			wantBool(t, fmt.Sprintf("IsCover(%v, %v)", x, sets), got, code, kind == "a cover")
			merged, code := impl.MergedChart(x, sets)
			call := fmt.Sprintf("MergedChart(%v, %v)", x, sets)
			if kind == "a cover" {
				wantChart(t, call, merged, code, mergedWith(x, sets))
				countMerged(kinds, x, sets)
			} else {
				wantChartError(t, call, merged, code, impl.ErrState)
			}
			kinds[kind]++
			kinds[fmt.Sprintf("%d sets: %v", len(sets), got)]++
		}
	}
	wantKinds(t, kinds, "a cover", "a set that does not go together", "a row in no set", "rows that follow in no set together",
		"0 sets: false", "1 sets: true", "1 sets: false", "2 sets: true", "2 sets: false", "8 sets: true", "8 sets: false",
		"the same set twice", "the first of several sets", "no row that follows", "no row that follows for some", "no output", "no output for some")
}

// countMerged counts what a merged chart has to look at.
func countMerged(kinds map[string]int, x impl.Chart, sets [][]int64) {
	for i, set := range sets {
		if slices.ContainsFunc(sets[:i], func(other []int64) bool { return slices.Equal(set, other) }) {
			kinds["the same set twice"]++
		}
		for column := range x.Columns {
			rows := followingWith(x, set, column)
			with := slices.DeleteFunc(slices.Clone(sets), func(other []int64) bool { return !hasRows(other, rows) })
			if len(rows) > 0 && len(with) > 1 {
				kinds["the first of several sets"]++
			}
			var next, outs []int64
			for _, row := range set {
				next, outs = append(next, x.Next[row][column]), append(outs, x.Outs[row][column])
			}
			for what, told := range map[string][]int64{"no row that follows": next, "no output": outs} {
				if slices.Max(told) < 0 {
					kinds[what]++
				} else if slices.Min(told) < 0 {
					kinds[what+" for some"]++
				}
			}
		}
	}
}

func TestMergedByHand(t *testing.T) {
	open := chartOf("0/0 -", "0 1/1", "- 1")
	overlapping := chartOfLine("-/0 1 -/1")
	round := chartOfLine("2/0 3/0 0/1 1/1")
	for _, c := range []struct {
		x    impl.Chart
		sets [][]int64
		want impl.Chart
	}{
		{open, [][]int64{{0, 1, 2}}, chartOf("0/0 0/1")},
		{open, [][]int64{{0, 1, 2}, {0, 1, 2}}, chartOf("0/0 0/1", "0/0 0/1")},
		{open, [][]int64{{0}, {1}, {2}}, chartOf("0/0 -", "0 1/1", "- 1")},
		{open, [][]int64{{2}, {1}, {0}}, chartOf("- 1", "2 1/1", "2/0 -")},
		{open, [][]int64{{1}, {0, 2}}, chartOf("1 0/1", "1/0 0")},
		{open, [][]int64{{1, 2}, {0}, {0, 1}}, chartOf("1 0/1", "1/0 -", "1/0 0/1")},
		{overlapping, [][]int64{{0, 1}, {1, 2}}, chartOfLine("0/0 0/1")},
		{overlapping, [][]int64{{1, 2}, {0, 1}}, chartOfLine("0/1 0/0")},
		{overlapping, [][]int64{{0}, {1, 2}}, chartOfLine("-/0 1/1")},
		{overlapping, [][]int64{{0}, {1, 2}, {1}, {0, 1}, {1}, {1}, {2}, {0}}, chartOfLine("-/0 1/1 1 1/0 1 1 -/1 -/0")},
		{round, [][]int64{{0, 1}, {2, 3}}, chartOfLine("1/0 0/1")},
		{round, [][]int64{{2, 3}, {0, 1}, {0}}, chartOfLine("1/1 0/0 0/0")},
		{chartOfLine("-"), [][]int64{{0}}, chartOfLine("-")},
		{chartOfLine("- -/1"), [][]int64{{0, 1}}, chartOfLine("-/1")},
		{chartOfLine("-/0 -"), [][]int64{{0, 1}}, chartOfLine("-/0")},
		{emptyChart(8, 4), [][]int64{rowsOfSet(255)}, emptyChart(1, 4)},
		{cubeChart(), oneByOne(8), cubeChart()},
	} {
		got, code := impl.IsCover(c.x, c.sets)
		wantBool(t, fmt.Sprintf("IsCover(%v, %v)", c.x, c.sets), got, code, true)
		merged, code := impl.MergedChart(c.x, c.sets)
		wantChart(t, fmt.Sprintf("MergedChart(%v, %v)", c.x, c.sets), merged, code, c.want)
	}
}

func TestNoCoversByHand(t *testing.T) {
	for _, c := range []struct {
		x    impl.Chart
		sets [][]int64
	}{
		{chartOfLine("-"), nil},
		{chartOfLine("-"), [][]int64{}},
		{emptyChart(8, 4), nil},
		{exampleChart(), [][]int64{{0, 1, 2, 3}}},                           // 0 and 1 differ
		{exampleChart(), [][]int64{{0}, {1}, {2}, {3}, {1, 3}}},             // 1 and 3 lead to 1 and 0
		{exampleChart(), [][]int64{{0}, {1, 2}}},                            // 3 is in no set
		{exampleChart(), [][]int64{{1}, {2}, {3}}},                          // 0 is in no set
		{chartOfLine("2 3 - -"), [][]int64{{0, 1}, {2}, {3}}},               // 2 and 3 are in no set together
		{chartOfLine("2 3 - -"), [][]int64{{2}, {0, 1, 3}}},                 // 2 and 3 likewise
		{chartOf("- 2", "- 3", "- -", "- -"), [][]int64{{0, 1}, {2}, {3}}},  // 2 and 3 in the last column
		{chartOfLine("3/0 2/0 0/1 4 1"), [][]int64{{0, 1}, {2, 3}, {0, 4}}}, // 1 and 3 in no set together
		{chartOfLine("3/0 2/0 0/1 4 1"), [][]int64{{0, 1}, {0, 4}, {1, 3}, {2, 3}}},
	} {
		got, code := impl.IsCover(c.x, c.sets)
		wantBool(t, fmt.Sprintf("IsCover(%v, %v)", c.x, c.sets), got, code, false)
		merged, code := impl.MergedChart(c.x, c.sets)
		wantChartError(t, fmt.Sprintf("MergedChart(%v, %v)", c.x, c.sets), merged, code, impl.ErrState)
	}
}

// badSets returns lists of sets that do not have the form of covers of so many rows.
func badSets(rows int64) [][][]int64 {
	good := oneByOne(rows)
	list := [][][]int64{
		slices.Repeat([][]int64{{0}}, 9), slices.Repeat([][]int64{rowsOfSet(1<<rows - 1)}, 9), slices.Repeat([][]int64{{rows - 1}}, 1000),
		slices.Concat(good, slices.Repeat(good, 9)), slices.Repeat([][]int64{nil}, 9),
	}
	wrong := [][]int64{nil, {}, {0, 0}, {rows - 1, rows - 1}, {rows}, {-1}, {0, rows}, {-1, 0}, {1, 0}, {rows - 1, 0}, {0, 1, 1}, make([]int64, 100), append(rowsOfSet(1<<rows-1), rows)}
	for _, far := range farBeyond(rows - 1) {
		wrong = append(wrong, []int64{far}, []int64{0, far}, []int64{far, 0})
	}
	if rows >= 3 {
		wrong = append(wrong, []int64{0, 2, 1}, []int64{2, 0, 1}, []int64{0, 1, 0})
	}
	for at, set := range wrong {
		place := at % len(good)
		list = append(list, [][]int64{set}, slices.Insert(slices.Clone(good[1:]), place%len(good), set), append([][]int64{set}, good[1:]...), append(slices.Clone(good[1:]), set))
	}
	return list
}

func TestSetsOutOfRange(t *testing.T) {
	for rows := int64(1); rows <= 8; rows++ {
		for _, x := range []impl.Chart{emptyChart(rows, 1), emptyChart(rows, 4), chartFrom(rand.New(rand.NewSource(rows)), rows, 2, 10, 4, 4)} {
			for _, sets := range badSets(rows) {
				got, code := impl.IsCover(x, sets)
				wantBoolError(t, fmt.Sprintf("IsCover(%v, %v)", x, sets), got, code, impl.ErrRange)
				merged, code := impl.MergedChart(x, sets)
				wantChartError(t, fmt.Sprintf("MergedChart(%v, %v)", x, sets), merged, code, impl.ErrRange)
				if len(sets) != 1 || len(sets[0]) == 0 {
					continue
				}
				got, code = impl.GoTogether(x, sets[0])
				wantBoolError(t, fmt.Sprintf("GoTogether(%v, %v)", x, sets[0]), got, code, impl.ErrRange)
			}
		}
	}
}

// fewestCovers returns all covers of so many sets of those that are given, with the sets by their
// numbers, ascending. Each step adds a set that has what is lacking.
func fewestCovers(x impl.Chart, together [][]int64, begun [][]int64, count int) [][]int64 {
	rows, kind := lackIn(x, begun)
	if kind == "a cover" {
		var cover []int64
		for _, set := range begun {
			cover = append(cover, numberOfSet(set))
		}
		slices.Sort(cover)
		return [][]int64{cover}
	}
	var covers [][]int64
	for _, set := range together {
		if len(begun) < count && hasRows(set, rows) {
			covers = append(covers, fewestCovers(x, together, append(slices.Clone(begun), set), count)...)
		}
	}
	return covers
}

// togetherSets returns the sets with a row that go together.
func togetherSets(x impl.Chart) [][]int64 {
	var together [][]int64
	for set, steps := range apartWith(x) {
		if set > 0 && steps < 0 {
			together = append(together, rowsOfSet(set))
		}
	}
	return together
}

// fewestWith returns the covers of the fewest sets of those that are given, in order, by the numbers
// of their sets.
func fewestWith(x impl.Chart, together [][]int64) [][]int64 {
	for count := 1; ; count++ {
		if covers := fewestCovers(x, together, nil, count); len(covers) > 0 {
			slices.SortFunc(covers, slices.Compare)
			return slices.CompactFunc(covers, slices.Equal)
		}
	}
}

// chartsToMerge returns the samples, and charts of MaxMerged rows in which covers need more sets
// because of the rows that follow, now and then.
func chartsToMerge() []impl.Chart {
	list := sampleCharts()
	source := rand.New(rand.NewSource(74))
	for columns := int64(1); columns <= 4; columns++ {
		for range 200 {
			list = append(list, chartFrom(source, 5, columns, 8, 5, 0), chartFrom(source, 5, columns, 12, 5, 0))
		}
	}
	return list
}

func TestFewestSets(t *testing.T) {
	kinds := map[string]int{}
	for at, x := range chartsToMerge() {
		call := fmt.Sprintf("FewestSets(%v)", x)
		got, code := impl.FewestSets(x)
		if len(x.Next) > 5 {
			wantListsError(t, call, got, code, impl.ErrLimit)
			kinds["too many rows"]++
			continue
		}
		if len(x.Next) == 3 && x.Columns == 1 && at%4 != 0 {
			continue
		}
		covers := fewestWith(x, togetherSets(x))
		var want [][]int64
		for _, set := range covers[0] {
			want = append(want, rowsOfSet(int(set)))
		}
		wantLists(t, call, got, code, want)
		countFewest(kinds, x, want)
		if len(covers) > 1 {
			kinds["several covers"]++
		}
	}
	wantKinds(t, kinds, "too many rows", "1 rows", "2 rows", "3 rows", "4 rows", "5 rows", "1 sets", "2 sets", "3 sets", "4 sets", "5 sets", "several covers", "a set that is no greatest one", "more sets than the rows alone need")
}

// countFewest counts what the fewest sets of a chart are like.
func countFewest(kinds map[string]int, x impl.Chart, sets [][]int64) {
	kinds[fmt.Sprintf("%d rows", len(x.Next))]++
	kinds[fmt.Sprintf("%d sets", len(sets))]++
	greatest := greatestWith(x)
	for _, set := range sets {
		if !slices.ContainsFunc(greatest, func(other []int64) bool { return slices.Equal(set, other) }) {
			kinds["a set that is no greatest one"]++
		}
	}
	if alone := fewestWith(emptyChart(int64(len(x.Next)), 1), togetherSets(x)); len(alone[0]) < len(sets) {
		kinds["more sets than the rows alone need"]++
	}
}

// TestRowsToMerge looks at charts of all numbers of rows, with MaxMerged of them and one more.
func TestRowsToMerge(t *testing.T) {
	for rows := int64(1); rows <= 8; rows++ {
		for columns := int64(1); columns <= 4; columns++ {
			got, code := impl.FewestSets(emptyChart(rows, columns))
			if rows > 5 {
				wantListsError(t, fmt.Sprintf("FewestSets with %d rows", rows), got, code, impl.ErrLimit)
			} else {
				wantLists(t, fmt.Sprintf("FewestSets with %d rows", rows), got, code, [][]int64{rowsOfSet(1<<rows - 1)})
			}
		}
	}
}

// areCalmWith reports whether codes are different, and whether they are calm.
func areCalmWith(x impl.Chart, codes []int64) (bool, bool) {
	used := map[int64]bool{}
	calm := true
	for row, code := range codes {
		used[code] = true
		for _, next := range x.Next[row] {
			if next < 0 {
				continue
			}
			differ := 0
			for place, digit := range digitsOf(code, 4) {
				if digit != digitsOf(codes[next], 4)[place] {
					differ++
				}
			}
			calm = calm && differ <= 1
		}
	}
	return len(used) == len(codes), calm
}

func TestAreCalm(t *testing.T) {
	kinds := map[string]int{}
	source := rand.New(rand.NewSource(73))
	for _, x := range sampleCharts() {
		gray := []int64{0, 1, 3, 2, 6, 7, 5, 4}
		lists := [][]int64{rowsOfSet(1<<len(x.Next) - 1), gray[:len(x.Next)], make([]int64, len(x.Next))}
		for range 12 {
			codes, order := make([]int64, len(x.Next)), source.Perm(16)
			for i := range codes {
				codes[i] = int64(order[i])
			}
			again := slices.Clone(codes)
			again[source.Intn(len(codes))] = codes[source.Intn(len(codes))]
			lists = append(lists, codes, again)
		}
		for _, codes := range lists {
			different, calm := areCalmWith(x, codes)
			got, code := impl.AreCalm(x, codes)
			wantBool(t, fmt.Sprintf("AreCalm(%v, %v)", x, codes), got, code, different && calm)
			kinds[fmt.Sprintf("different %v, calm %v", different, calm)]++
			kinds[fmt.Sprintf("%d rows: %v", len(codes), got)]++
		}
	}
	wantKinds(t, kinds, "different false, calm false", "different false, calm true", "different true, calm false", "different true, calm true", "1 rows: true", "8 rows: true", "8 rows: false")
}

func TestCalmByHand(t *testing.T) {
	ring := chartOfLine("1 2 3 0")
	for _, c := range []struct {
		x     impl.Chart
		codes []int64
		want  bool
	}{
		{ring, []int64{0, 1, 3, 2}, true},
		{ring, []int64{0, 1, 2, 3}, false}, // from 1 to 2 both digits turn
		{ring, []int64{0, 1, 0, 2}, false},
		{ring, []int64{5, 13, 9, 1}, true},
		{ring, []int64{0, 1, 3, 7}, false}, // back to 0
		{chartOfLine("1 2 3 -"), []int64{0, 1, 3, 7}, true},
		{chartOfLine("0 0 1 2"), []int64{0, 1, 3, 7}, true},
		{chartOfLine("0 1 2 3"), []int64{0, 15, 3, 12}, true}, // all places stay
		{emptyChart(4, 4), []int64{0, 15, 3, 12}, true},
		{emptyChart(4, 4), []int64{0, 15, 0, 12}, false},
		{chartOfLine("0"), []int64{15}, true},
		{chartOf("- - - 1", "- - - -"), []int64{0, 3}, false}, // in the last column
		{chartOf("- - - 1", "- - - -"), []int64{7, 15}, true},
		{chartOf("- - - -", "- - 0 -"), []int64{15, 0}, false},
		{cubeChart(), []int64{0, 1, 2, 3, 4, 5, 6, 7}, true},
		{cubeChart(), []int64{8, 9, 10, 11, 12, 13, 14, 15}, true},
		{cubeChart(), []int64{0, 1, 2, 3, 4, 5, 7, 6}, false},
	} {
		got, code := impl.AreCalm(c.x, c.codes)
		wantBool(t, fmt.Sprintf("AreCalm(%v, %v)", c.x, c.codes), got, code, c.want)
	}
}

func TestCodesOutOfRange(t *testing.T) {
	for rows := int64(1); rows <= 8; rows++ {
		good := rowsOfSet(1<<rows - 1)
		for _, x := range []impl.Chart{emptyChart(rows, 1), emptyChart(rows, 4)} {
			wrong := [][]int64{nil, good[1:], append(slices.Clone(good), 15), append(slices.Clone(good), 0), make([]int64, 1000)}
			for at, far := range append(farBeyond(15), 16, -1) {
				codes := slices.Clone(good)
				codes[at%len(codes)] = far
				last := slices.Clone(good)
				last[rows-1] = far
				wrong = append(wrong, codes, last, slices.Repeat([]int64{far}, int(rows)))
			}
			for _, codes := range wrong {
				got, code := impl.AreCalm(x, codes)
				wantBoolError(t, fmt.Sprintf("AreCalm(%v, %v)", x, codes), got, code, impl.ErrRange)
			}
		}
	}
}

// firstCodesWith returns the least calm codes of d digits behind those of the first rows, or nil if
// there are none.
func firstCodesWith(x impl.Chart, d int64, begun []int64) []int64 {
	row := int64(len(begun))
	if row == int64(len(x.Next)) {
		return begun
	}
next:
	for code := range int64(1) << d {
		for other, used := range begun {
			follow := slices.Contains(x.Next[row], int64(other)) || slices.Contains(x.Next[other], row)
			if used == code || follow && onesIn(digitsOf(used^code, 4)) > 1 {
				continue next
			}
		}
		if codes := firstCodesWith(x, d, append(slices.Clone(begun), code)); codes != nil {
			return codes
		}
	}
	return nil
}

func TestFirstCodes(t *testing.T) {
	kinds := map[string]int{}
	for at, x := range sampleCharts() {
		if len(x.Next) == 3 && x.Columns == 1 && at%4 != 0 {
			continue
		}
		for d := int64(1); d <= 4; d++ {
			call := fmt.Sprintf("FirstCodes(%v, %d)", x, d)
			got, code := impl.FirstCodes(x, d)
			if want := firstCodesWith(x, d, nil); want == nil {
				wantListError(t, call, got, code, impl.ErrNotFound)
			} else {
				wantList(t, call, got, code, want)
			}
			kinds[fmt.Sprintf("%d digits: %v", d, len(got) > 0)]++
			kinds[fmt.Sprintf("%d rows: %v", len(x.Next), len(got) > 0)]++
			if 1<<d < len(x.Next) {
				kinds["fewer codes than rows"]++
			} else if len(got) == 0 {
				kinds["rows that no codes serve"]++
			}
		}
	}
	wantKinds(t, kinds, "1 digits: true", "1 digits: false", "2 digits: true", "2 digits: false", "3 digits: true", "3 digits: false", "4 digits: true", "4 digits: false", "8 rows: true", "8 rows: false", "fewer codes than rows", "rows that no codes serve")
}

// TestFirstCodesByHand has for each chart the least codes of 1 to MaxDigits digits, nil if there are
// none.
func TestFirstCodesByHand(t *testing.T) {
	upTo := func(n int64) []int64 { return rowsOfSet(1<<n - 1) }
	for _, c := range []struct {
		x     impl.Chart
		codes [4][]int64
	}{
		{chartOfLine("-"), [4][]int64{{0}, {0}, {0}, {0}}},
		{chartOfLine("1 0"), [4][]int64{{0, 1}, {0, 1}, {0, 1}, {0, 1}}},
		{emptyChart(3, 4), [4][]int64{nil, {0, 1, 2}, {0, 1, 2}, {0, 1, 2}}},
		{emptyChart(4, 1), [4][]int64{nil, upTo(4), upTo(4), upTo(4)}},
		{emptyChart(5, 1), [4][]int64{nil, nil, upTo(5), upTo(5)}},
		{emptyChart(8, 4), [4][]int64{nil, nil, upTo(8), upTo(8)}},
		{chartOfLine("0 1 2 3 4 5 6 7"), [4][]int64{nil, nil, upTo(8), upTo(8)}},
		{chartOfLine("1 2 2"), [4][]int64{nil, {0, 1, 3}, {0, 1, 3}, {0, 1, 3}}},
		{chartOfLine("2 2 2"), [4][]int64{nil, {0, 3, 1}, {0, 3, 1}, {0, 3, 1}}},
		{chartOfLine("1 2 3 0"), [4][]int64{nil, {0, 1, 3, 2}, {0, 1, 3, 2}, {0, 1, 3, 2}}},
		{chartOf("- - - 2", "- - - 3", "- - 1 -", "- - - -"), [4][]int64{nil, {0, 3, 1, 2}, {0, 3, 1, 2}, {0, 3, 1, 2}}},
		// Rows round which an odd number of steps leads.
		{chartOfLine("1 2 0"), [4][]int64{}},
		{chartOfLine("1 2 3 4 0"), [4][]int64{}},
		{chartOfLine("- - - - - 6 7 5"), [4][]int64{}},
		// A row next to 4 others, to 5, and to all 7.
		{chartOfLine("0 0 0 0 0"), [4][]int64{nil, nil, nil, {0, 1, 2, 4, 8}}},
		{chartOfLine("0 0 0 0"), [4][]int64{nil, nil, {0, 1, 2, 4}, {0, 1, 2, 4}}},
		{chartOfLine("4 4 4 4 4"), [4][]int64{nil, nil, nil, {0, 3, 5, 9, 1}}},
		{chartOfLine("5 5 5 5 5 5"), [4][]int64{}},
		{chartOfLine("0 0 0 0 0 0"), [4][]int64{}},
		{chartOfLine("7 7 7 7 7 7 7 7"), [4][]int64{}},
		// All rows one behind the other, and round.
		{chartOfLine("1 2 3 4 5 6 7 7"), [4][]int64{nil, nil, {0, 1, 3, 2, 6, 4, 5, 7}, {0, 1, 3, 2, 6, 4, 5, 7}}},
		{chartOfLine("1 2 3 4 5 0"), [4][]int64{nil, nil, {0, 1, 3, 2, 6, 4}, {0, 1, 3, 2, 6, 4}}},
		{chartOfLine("1 2 3 4 5 6 7 0"), [4][]int64{nil, nil, {0, 1, 3, 2, 6, 7, 5, 4}, {0, 1, 3, 2, 6, 4, 12, 8}}},
		{cubeChart(), [4][]int64{nil, nil, upTo(8), upTo(8)}},
		// Two rows that have three others next to both of them.
		{chartOf("2 3 4", "2 3 4", "- - -", "- - -", "- - -"), [4][]int64{}},
	} {
		for i, want := range c.codes {
			call := fmt.Sprintf("FirstCodes(%v, %d)", c.x, i+1)
			got, code := impl.FirstCodes(c.x, int64(i)+1)
			if want == nil {
				wantListError(t, call, got, code, impl.ErrNotFound)
			} else {
				wantList(t, call, got, code, want)
			}
		}
	}
}

func TestDigitsOutOfRange(t *testing.T) {
	for _, x := range []impl.Chart{emptyChart(1, 1), emptyChart(8, 4), chartOfLine("1 2 0"), cubeChart()} {
		for _, d := range append(farBeyond(4), 0, -1, 5) {
			got, code := impl.FirstCodes(x, d)
			wantListError(t, fmt.Sprintf("FirstCodes(%v, %d)", x, d), got, code, impl.ErrRange)
		}
	}
}

// textOfChart returns the text of a chart.
func textOfChart(x impl.Chart) string {
	var rows []string
	for row := range x.Next {
		var places []string
		for column, next := range x.Next[row] {
			place := strings.ReplaceAll(fmt.Sprintf("%d/%d", next, x.Outs[row][column]), "/-1", "")
			places = append(places, strings.ReplaceAll(place, "-1", "-"))
		}
		rows = append(rows, strings.Join(places, ","))
	}
	return strings.Join(rows, ";")
}

func TestChartTexts(t *testing.T) {
	for _, x := range sampleCharts() {
		want := textOfChart(x)
		text, code := impl.ChartText(x)
		if text != want || code != impl.ErrNone {
			t.Errorf("ChartText(%v) = %q, %d, want %q", x, text, code, want)
		}
		got, code := impl.ParseChart(want)
		wantChart(t, fmt.Sprintf("ParseChart(%q)", want), got, code, x)
	}
	for text, x := range map[string]impl.Chart{
		"-":                               chartOfLine("-"),
		"0/1":                             chartOfLine("0/1"),
		"-/0,-/1,-,0":                     chartOf("-/0 -/1 - 0"),
		"1/0;-":                           chartOfLine("1/0 -"),
		"0/0,1;2,1/0;2/1,-;2,0":           exampleChart(),
		"7;6;5;4;3;2;1;0":                 chartOfLine("7 6 5 4 3 2 1 0"),
		"1/1,-/0;-,0/0;2/0,2":             chartOf("1/1 -/0", "- 0/0", "2/0 2"),
		"-,-,-,-;-,-,-,-":                 emptyChart(2, 4),
		"-/1;-/1;-/1;-/1;0/1;-/1;-/1;-/1": chartOfLine("-/1 -/1 -/1 -/1 0/1 -/1 -/1 -/1"),
	} {
		got, code := impl.ChartText(x)
		if got != text || code != impl.ErrNone {
			t.Errorf("ChartText(%v) = %q, %d, want %q", x, got, code, text)
		}
		parsed, code := impl.ParseChart(text)
		wantChart(t, fmt.Sprintf("ParseChart(%q)", text), parsed, code, x)
	}
}

// textTellsChart returns the chart with a text, found by comparing each place with the texts of all
// places, and whether there is one.
func textTellsChart(text string) (impl.Chart, bool) {
	rows := strings.Split(text, ";")
	places := map[string][2]int64{}
	for next := int64(-1); next < int64(len(rows)); next++ {
		sign := "-"
		if next >= 0 {
			sign = fmt.Sprint(next)
		}
		places[sign], places[sign+"/0"], places[sign+"/1"] = [2]int64{next, -1}, [2]int64{next, 0}, [2]int64{next, 1}
	}
	x := impl.Chart{}
	for _, row := range rows {
		var next, outs []int64
		for _, word := range strings.Split(row, ",") {
			place, isPlace := places[word]
			if !isPlace {
				return impl.Chart{}, false
			}
			next, outs = append(next, place[0]), append(outs, place[1])
		}
		x.Columns = int64(len(next))
		x.Next, x.Outs = append(x.Next, next), append(x.Outs, outs)
	}
	for _, next := range x.Next {
		if int64(len(next)) != x.Columns {
			return impl.Chart{}, false
		}
	}
	return x, len(rows) <= 8 && x.Columns <= 4
}

// wantParsed fails unless a text is parsed as the tests do it, and reports whether it has a chart.
func wantParsed(t *testing.T, text string) bool {
	t.Helper()
	want, tells := textTellsChart(text)
	got, code := impl.ParseChart(text)
	if tells {
		wantChart(t, fmt.Sprintf("ParseChart(%q)", text), got, code, want)
	} else {
		wantChartError(t, fmt.Sprintf("ParseChart(%q)", text), got, code, impl.ErrSyntax)
	}
	return tells
}

// TestDamagedCharts damages texts in each place: a sign is left out, twice, or another one.
func TestDamagedCharts(t *testing.T) {
	kinds := map[string]int{}
	texts := []string{"-", "0", "0/1", "-/0,-/1,-,0", "1/0;-", textOfChart(exampleChart()), textOfChart(cubeChart()), "7;6;5;4;3;2;1;0", "-,-,-,-;-,-,-,-", textOfChart(emptyChart(8, 4)), "-/1;-/1;-/1;-/1;0/1;-/1;-/1;-/1"}
	for _, text := range texts {
		for at := range len(text) + 1 {
			for _, sign := range strings.Split("0 1 2 7 8 9 a / - , ; + : . \x00 \xff \u0660 \n 00 01 -1", " ") {
				kinds[fmt.Sprint(wantParsed(t, text[:at]+sign+text[at:]))]++
				if at < len(text) {
					kinds[fmt.Sprint(wantParsed(t, text[:at]+sign+text[at+1:]))]++
				}
			}
			wantParsed(t, text[:at])
			wantParsed(t, text[at:])
			wantParsed(t, text[:at]+" "+text[at:])
			if at < len(text) {
				wantParsed(t, text[:at]+text[at+1:])
				wantParsed(t, text[:at]+text[at:at+1]+text[at:])
			}
		}
	}
	wantKinds(t, kinds, "true", "false")
}

// TestShortChartTexts looks at all short texts of some signs.
func TestShortChartTexts(t *testing.T) {
	kinds := map[string]int{}
	for length := range 6 {
		for _, text := range shortTexts("012/-,;", length) {
			kinds[fmt.Sprint(wantParsed(t, text))]++
		}
	}
	wantKinds(t, kinds, "true", "false")
}

func TestNoChartTexts(t *testing.T) {
	for _, bad := range []string{
		"", ";", ",", "/", "1", "0;", ";0", "0,", ",0", "0,,0", "0;;0", "0,0;0", "0;0,0", "0,0;0,0,0", "0/", "/0", "0/2", "0/-", "0/-1", "0//", "0/0/", "0/0/0", "-/-", "--", "-1", "-0", "+0", "00", "01;0", "0 ", " 0", "0\n", "2;0", "8;0;0;0;0;0;0;0", "/;0", "0/.", "0/00", "0/10", "8", "9", "a", "-/", "-//0",
		"0,0,0,0,0", "-;-;-;-;-;-;-;-;-", "0,0,0,0,0;0,0,0,0,0", "8;-;-;-;-;-;-;-;-", "10;-;-;-;-;-;-;-;-;-;-",
		strings.Repeat("0;", 100000), strings.Repeat("0,", 100000), strings.Repeat("0", 100000), "0/" + strings.Repeat("0", 100000), strings.Repeat("0;", 8) + "0", strings.Repeat("0,", 4) + "0",
	} {
		x, code := impl.ParseChart(bad)
		wantChartError(t, fmt.Sprintf("ParseChart(%.40q)", bad), x, code, impl.ErrSyntax)
	}
}

// TestPlacesOutOfRange looks at rows and columns at the ends of their ranges, and beyond, where there
// are chains and where there are none.
func TestPlacesOutOfRange(t *testing.T) {
	for rows := int64(1); rows <= 8; rows++ {
		for columns := int64(1); columns <= 4; columns++ {
			staying := chartWith(rows, columns, func(row int64, column int64) (int64, int64) { return row, 1 })
			for _, x := range []impl.Chart{staying, emptyChart(rows, columns)} {
				var wrong [][2]int64
				for _, far := range append(farBeyond(rows-1), rows) {
					wrong = append(wrong, [2]int64{far, 0}, [2]int64{far, columns - 1}, [2]int64{far, far}, [2]int64{far, -1})
				}
				for _, far := range append(farBeyond(columns-1), columns) {
					wrong = append(wrong, [2]int64{0, far}, [2]int64{rows - 1, far}, [2]int64{-1, far}, [2]int64{rows, far})
				}
				for _, place := range wrong {
					list, code := impl.ChainFrom(x, place[0], place[1])
					wantListError(t, fmt.Sprintf("ChainFrom(%v, %d, %d)", x, place[0], place[1]), list, code, impl.ErrRange)
					wantRunOver(t, x, place[0], []int64{place[1]}, nil, nil, impl.ErrRange)
					wantRunOver(t, x, place[0], []int64{0, columns - 1, place[1]}, nil, nil, impl.ErrRange)
					wantRunOver(t, x, place[0], []int64{place[1], 0}, nil, nil, impl.ErrRange)
				}
				for _, far := range append(farBeyond(rows-1), rows) {
					wantRunOver(t, x, far, nil, nil, nil, impl.ErrRange)
				}
			}
			wantRunOver(t, staying, rows-1, []int64{columns - 1}, []int64{rows - 1}, []int64{1}, impl.ErrNone)
			wantRunOver(t, emptyChart(rows, columns), rows-1, []int64{columns - 1}, nil, nil, impl.ErrNotFound)
		}
	}
}

// TestNoCharts gives what is no chart, with all else as it should be or not.
func TestNoCharts(t *testing.T) {
	for _, x := range noCharts() {
		lists, code := impl.StayingPlaces(x)
		wantListsError(t, fmt.Sprintf("StayingPlaces(%v)", x), lists, code, impl.ErrInvalid)
		lists, code = impl.PairsTogether(x)
		wantListsError(t, fmt.Sprintf("PairsTogether(%v)", x), lists, code, impl.ErrInvalid)
		lists, code = impl.GreatestSets(x)
		wantListsError(t, fmt.Sprintf("GreatestSets(%v)", x), lists, code, impl.ErrInvalid)
		lists, code = impl.FewestSets(x)
		wantListsError(t, fmt.Sprintf("FewestSets(%v)", x), lists, code, impl.ErrInvalid)
		text, code := impl.ChartText(x)
		if text != "" || code != impl.ErrInvalid {
			t.Errorf("ChartText(%v) = %q, %d, want ErrInvalid", x, text, code)
		}
		for _, place := range [][2]int64{{0, 0}, {0, 3}, {-1, 0}, {0, -1}, {7, 4}, {8, 0}, {math.MinInt64, math.MaxInt64}, {math.MaxInt64, math.MinInt64}} {
			list, code := impl.ChainFrom(x, place[0], place[1])
			wantListError(t, fmt.Sprintf("ChainFrom(%v, %d, %d)", x, place[0], place[1]), list, code, impl.ErrInvalid)
			wantRunOver(t, x, place[0], []int64{place[1]}, nil, nil, impl.ErrInvalid)
		}
		wantRunOver(t, x, 0, nil, nil, nil, impl.ErrInvalid)
		wantRunOver(t, x, 0, make([]int64, 101), nil, nil, impl.ErrInvalid)
		for _, rows := range [][]int64{nil, {0}, {0, 1}, {1, 0}, {0, 0}, {-1}, {8}, make([]int64, 9)} {
			yes, code := impl.GoTogether(x, rows)
			wantBoolError(t, fmt.Sprintf("GoTogether(%v, %v)", x, rows), yes, code, impl.ErrInvalid)
			yes, code = impl.AreCalm(x, rows)
			wantBoolError(t, fmt.Sprintf("AreCalm(%v, %v)", x, rows), yes, code, impl.ErrInvalid)
			for _, sets := range [][][]int64{nil, {rows}, {{0}, rows}, slices.Repeat([][]int64{rows}, 9)} {
				yes, code := impl.IsCover(x, sets)
				wantBoolError(t, fmt.Sprintf("IsCover(%v, %v)", x, sets), yes, code, impl.ErrInvalid)
				merged, code := impl.MergedChart(x, sets)
				wantChartError(t, fmt.Sprintf("MergedChart(%v, %v)", x, sets), merged, code, impl.ErrInvalid)
			}
		}
		for _, d := range []int64{0, 1, 4, 5, -1, math.MinInt64, math.MaxInt64} {
			codes, code := impl.FirstCodes(x, d)
			wantListError(t, fmt.Sprintf("FirstCodes(%v, %d)", x, d), codes, code, impl.ErrInvalid)
		}
	}
}

// TestChartArgumentsStay checks that no function writes on an argument, or behind its lists.
func TestChartArgumentsStay(t *testing.T) {
	source := rand.New(rand.NewSource(75))
	for _, x := range append(sampleCharts(), noCharts()...) {
		given, unchanged := spareChart(x)
		columns, stayed := withSpare([]int64{0, 0, 0})
		rows, kept := withSpare(rowsOfSet(1<<min(len(x.Next), 8) - 1))
		impl.IsChart(given)
		impl.StayingPlaces(given)
		impl.ChainFrom(given, 0, 0)
		impl.RunOver(given, 0, columns)
		impl.PairsTogether(given)
		impl.GoTogether(given, rows)
		impl.GreatestSets(given)
		impl.FewestSets(given)
		impl.AreCalm(given, rows)
		impl.FirstCodes(given, 1)
		impl.FirstCodes(given, 4)
		impl.ChartText(given)
		if !unchanged() || !stayed() || !kept() {
			t.Errorf("%v, columns or rows are changed, or what is behind them", x)
		}
		if !impl.IsChart(x) {
			continue
		}
		for _, sets := range append(sampleSets(source, x), [][]int64{{0, 0}}, [][]int64{nil}, slices.Repeat([][]int64{{0}}, 9)) {
			lists, same := spareLists(sets)
			impl.IsCover(given, lists)
			impl.MergedChart(given, lists)
			if !unchanged() || !same() {
				t.Errorf("%v or %v is changed, or what is behind them", x, sets)
			}
		}
	}
}

// chartCalls return all lists in results of the functions of the chapter.
var chartCalls = map[string]func(x impl.Chart, sets [][]int64, list []int64) [][]int64{
	"StayingPlaces": func(x impl.Chart, sets [][]int64, list []int64) [][]int64 {
		lists, _ := impl.StayingPlaces(x)
		return lists
	},
	"ChainFrom": func(x impl.Chart, sets [][]int64, list []int64) [][]int64 {
		chain, _ := impl.ChainFrom(x, 0, 0)
		return [][]int64{chain}
	},
	"RunOver": func(x impl.Chart, sets [][]int64, list []int64) [][]int64 {
		rows, outs, _ := impl.RunOver(x, 0, list)
		return [][]int64{rows, outs}
	},
	"PairsTogether": func(x impl.Chart, sets [][]int64, list []int64) [][]int64 {
		lists, _ := impl.PairsTogether(x)
		return lists
	},
	"GreatestSets": func(x impl.Chart, sets [][]int64, list []int64) [][]int64 {
		lists, _ := impl.GreatestSets(x)
		return lists
	},
	"FewestSets": func(x impl.Chart, sets [][]int64, list []int64) [][]int64 {
		lists, _ := impl.FewestSets(x)
		return lists
	},
	"MergedChart": func(x impl.Chart, sets [][]int64, list []int64) [][]int64 {
		merged, _ := impl.MergedChart(x, sets)
		return append(merged.Next[:len(merged.Next):len(merged.Next)], merged.Outs...)
	},
	"FirstCodes": func(x impl.Chart, sets [][]int64, list []int64) [][]int64 {
		codes, _ := impl.FirstCodes(x, 4)
		return [][]int64{codes}
	},
	"ParseChart": func(x impl.Chart, sets [][]int64, list []int64) [][]int64 {
		parsed, _ := impl.ParseChart(textOfChart(x))
		return append(parsed.Next[:len(parsed.Next):len(parsed.Next)], parsed.Outs...)
	},
}

// TestChartResultsAreNew writes on results, and looks at what else is there, and asks again.
func TestChartResultsAreNew(t *testing.T) {
	charts := []impl.Chart{exampleChart(), chartOf("0/0 -", "0 1/1", "- 1"), chartOfLine("0 1 2 3/1 4/0"), chartOf("1 0 0/1", "1/1 1 0"), chartOfLine("3/0 2/0 0/1 4 1"), emptyChart(5, 4), chartOfLine("0/1")}
	for name, run := range chartCalls {
		for _, x := range charts {
			covers := [][][]int64{oneByOne(int64(len(x.Next))), greatestWith(x), append(oneByOne(int64(len(x.Next))), []int64{0})}
			for _, sets := range covers {
				given, unchanged := spareChart(x)
				lists, stayed := spareLists(sets)
				columns, kept := withSpare([]int64{0, 0, x.Columns - 1})
				first := run(given, lists, columns)
				want := copyOfLists(first)
				wantApart(t, fmt.Sprintf("%s of %v", name, x), first)
				for i := range first {
					scribble(first[i])
					first[i] = nil
				}
				if !unchanged() || !stayed() || !kept() {
					t.Errorf("%s of %v and %v shares memory with an argument", name, x, sets)
				}
				if again := run(given, lists, columns); !sameLists(again, want) {
					t.Errorf("%s of %v and %v once more: %v, want %v", name, x, sets, again, want)
				}
			}
		}
	}
}

// TestRowsOfMergedCharts appends to each row of a chart, which must not reach into the next one.
func TestRowsOfMergedCharts(t *testing.T) {
	x := exampleChart()
	merged, _ := impl.MergedChart(x, [][]int64{{0}, {1, 2}, {2, 3}})
	parsed, _ := impl.ParseChart(textOfChart(merged))
	for _, y := range []impl.Chart{merged, parsed} {
		want := copyOfChart(y)
		for row := range y.Next {
			_ = append(y.Next[row], -77)
			_ = append(y.Outs[row], -77)
		}
		if !sameChart(y, want) {
			t.Errorf("rows reach into others: %v, want %v", y, want)
		}
	}
}

// TestPromise7 checks the seventh promise, and with it what the chapter says of greatest sets, by the
// functions of the chapter alone.
func TestPromise7(t *testing.T) {
	for _, x := range chartsToMerge() {
		greatest, code := impl.GreatestSets(x)
		if code != impl.ErrNone {
			t.Fatalf("GreatestSets(%v): code %d", x, code)
		}
		for _, set := range greatest {
			yes, code := impl.GoTogether(x, set)
			wantBool(t, fmt.Sprintf("GoTogether(%v, %v), a greatest set", x, set), yes, code, true)
		}
		fewest, code := impl.FewestSets(x)
		if code == impl.ErrNone {
			yes, code := impl.IsCover(x, fewest)
			wantBool(t, fmt.Sprintf("IsCover(%v, %v), the fewest sets", x, fewest), yes, code, true)
		} else if len(x.Next) <= 5 {
			t.Errorf("FewestSets(%v): code %d", x, code)
		}
		// What follows a set that goes together does so, too, so that all greatest sets are a cover.
		if len(greatest) <= 8 {
			yes, code := impl.IsCover(x, greatest)
			wantBool(t, fmt.Sprintf("IsCover(%v, %v), the greatest sets", x, greatest), yes, code, true)
			if len(fewest) > len(greatest) {
				t.Errorf("FewestSets(%v) = %v, but %v are a cover", x, fewest, greatest)
			}
		}
		wantPairs(t, x, greatest)
	}
}

// wantPairs fails unless just the pairs in greatest sets go together.
func wantPairs(t *testing.T, x impl.Chart, greatest [][]int64) {
	t.Helper()
	var want [][]int64
	for a := range int64(len(x.Next)) {
		for b := a + 1; b < int64(len(x.Next)); b++ {
			if setWith(greatest, []int64{a, b}) >= 0 {
				want = append(want, []int64{a, b})
			}
		}
	}
	got, code := impl.PairsTogether(x)
	wantLists(t, fmt.Sprintf("PairsTogether(%v), by the greatest sets", x), got, code, want)
}

// TestChainsEndAtPlacesThatStay checks that chains end at places that stay, and at no others, that each
// row is followed by the next one, and that runs are chains one behind the other.
func TestChainsEndAtPlacesThatStay(t *testing.T) {
	for _, x := range sampleCharts() {
		staying, _ := impl.StayingPlaces(x)
		for row := range int64(len(x.Next)) {
			for column := range x.Columns {
				chain, code := impl.ChainFrom(x, row, column)
				rows, outs, runs := impl.RunOver(x, row, []int64{column})
				if code != runs || (code == impl.ErrNone) != (len(chain) > 0) {
					t.Fatalf("ChainFrom(%v, %d, %d) = %v, %d, RunOver: %d", x, row, column, chain, code, runs)
				}
				if code != impl.ErrNone {
					continue
				}
				end := chain[len(chain)-1]
				if chain[0] != row || rows[0] != end || outs[0] != x.Outs[end][column] {
					t.Errorf("ChainFrom(%v, %d, %d) = %v, RunOver: %v, %v", x, row, column, chain, rows, outs)
				}
				for i, at := range chain {
					stays := slices.ContainsFunc(staying, func(place []int64) bool { return slices.Equal(place, []int64{at, column}) })
					if stays != (i == len(chain)-1) || !stays && x.Next[at][column] != chain[i+1] {
						t.Errorf("ChainFrom(%v, %d, %d) = %v, the staying places are %v", x, row, column, chain, staying)
					}
				}
			}
		}
	}
}

// TestMergedChartsKeepOutputs checks that merged charts are charts, keep the outputs that are told and
// lead to sets with the rows that follow, and that their texts lead back to them.
func TestMergedChartsKeepOutputs(t *testing.T) {
	source := rand.New(rand.NewSource(76))
	for _, x := range sampleCharts() {
		for _, sets := range sampleSets(source, x) {
			merged, code := impl.MergedChart(x, sets)
			if yes, _ := impl.IsCover(x, sets); yes != (code == impl.ErrNone) {
				t.Fatalf("MergedChart(%v, %v): code %d, IsCover %v", x, sets, code, yes)
			}
			if code != impl.ErrNone {
				continue
			}
			if !impl.IsChart(merged) || len(merged.Next) != len(sets) {
				t.Fatalf("MergedChart(%v, %v) = %v", x, sets, merged)
			}
			wantKept(t, x, sets, merged)
			text, _ := impl.ChartText(merged)
			back, code := impl.ParseChart(text)
			wantChart(t, fmt.Sprintf("ParseChart(%q)", text), back, code, merged)
		}
	}
}

// wantKept fails unless what is told for the rows of sets is told for their merged rows, too.
func wantKept(t *testing.T, x impl.Chart, sets [][]int64, merged impl.Chart) {
	t.Helper()
	for i, set := range sets {
		for _, row := range set {
			for column := range x.Columns {
				next, out := x.Next[row][column], x.Outs[row][column]
				if out >= 0 && merged.Outs[i][column] != out {
					t.Errorf("MergedChart(%v, %v) = %v: the output of %d in %d is lost", x, sets, merged, row, column)
				}
				if next >= 0 && (merged.Next[i][column] < 0 || !slices.Contains(sets[merged.Next[i][column]], next)) {
					t.Errorf("MergedChart(%v, %v) = %v: the row behind %d in %d is lost", x, sets, merged, row, column)
				}
			}
		}
	}
}

// TestFirstCodesAreCalm checks that first codes are calm ones of their digits, that more digits never
// lead to greater ones, and that they are found with more digits if they are with fewer.
func TestFirstCodesAreCalm(t *testing.T) {
	for _, x := range sampleCharts() {
		var before []int64
		for d := int64(1); d <= 4; d++ {
			codes, code := impl.FirstCodes(x, d)
			if code == impl.ErrNone {
				yes, calm := impl.AreCalm(x, codes)
				wantBool(t, fmt.Sprintf("AreCalm(%v, %v)", x, codes), yes, calm, true)
				if slices.Max(codes) >= 1<<d {
					t.Errorf("FirstCodes(%v, %d) = %v", x, d, codes)
				}
			}
			if len(before) > 0 && (code != impl.ErrNone || slices.Compare(codes, before) > 0) {
				t.Errorf("FirstCodes(%v, %d) = %v, %d, but %v with a digit less", x, d, codes, code, before)
			}
			before = codes
		}
	}
}
