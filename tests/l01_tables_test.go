package tests

import (
	"fmt"
	"slices"
	"strconv"
	"strings"
	"testing"

	"loop.example/g01392/impl"
)

func TestErrorCodes(t *testing.T) {
	got := []int64{impl.ErrNone, impl.ErrInvalid, impl.ErrRange, impl.ErrLimit, impl.ErrNotFound, impl.ErrState, impl.ErrSyntax}
	if !slices.Equal(got, []int64{0, 1, 2, 3, 4, 5, 6}) || impl.MaxInputs != 5 {
		t.Errorf("codes %v, MaxInputs %d", got, impl.MaxInputs)
	}
	// They stand beside numbers of every type, as constants without one do.
	var asByte byte = impl.ErrSyntax
	var asFloat float64 = impl.MaxInputs
	if asByte != 6 || asFloat != 5 {
		t.Errorf("constants %d, %v", asByte, asFloat)
	}
}

func TestIsTable(t *testing.T) {
	for _, x := range sampleTables() {
		if !impl.IsTable(x) {
			t.Errorf("IsTable(%v) = false", x)
		}
	}
	for _, x := range noTables {
		if impl.IsTable(x) {
			t.Errorf("IsTable(%v) = true", x)
		}
	}
	for n, last := range map[int64]int64{1: 3, 2: 15, 3: 255, 4: 65535, 5: 4294967295} {
		if !impl.IsTable(impl.Table{Inputs: n, Values: last}) || impl.IsTable(impl.Table{Inputs: n, Values: last + 1}) {
			t.Errorf("IsTable with %d inputs does not end at %d", n, last)
		}
	}
	for _, far := range farNumbers {
		if impl.IsTable(impl.Table{Inputs: far}) || impl.IsTable(impl.Table{Inputs: far, Values: far}) {
			t.Errorf("IsTable with %d inputs = true", far)
		}
	}
}

func TestValueInRow(t *testing.T) {
	for _, x := range sampleTables() {
		for k, want := range valuesOf(x) {
			if got, code := impl.ValueInRow(x, int64(k)); got != want || code != impl.ErrNone {
				t.Errorf("ValueInRow(%v, %d) = %d, %d, want %d, 0", x, k, got, code, want)
			}
		}
	}
	for n := int64(1); n <= 5; n++ {
		x := impl.Table{Inputs: n, Values: 1<<(1<<n) - 1}
		for _, k := range append([]int64{1 << n, 1<<n + 1}, farNumbers...) {
			if got, code := impl.ValueInRow(x, k); got != 0 || code != impl.ErrRange {
				t.Errorf("ValueInRow(%v, %d) = %d, %d, want 0, ErrRange", x, k, got, code)
			}
		}
	}
	for _, x := range noTables {
		for _, k := range []int64{0, -1, 99} {
			if got, code := impl.ValueInRow(x, k); got != 0 || code != impl.ErrInvalid {
				t.Errorf("ValueInRow(%v, %d) = %d, %d, want 0, ErrInvalid", x, k, got, code)
			}
		}
	}
}

// rowsWithOne returns the rows of a table whose value is 1, found by its values.
func rowsWithOne(x impl.Table) []int64 {
	var rows []int64
	for k, value := range valuesOf(x) {
		if value == 1 {
			rows = append(rows, int64(k))
		}
	}
	return rows
}

func TestOnesOf(t *testing.T) {
	for _, x := range sampleTables() {
		rows, code := impl.OnesOf(x)
		wantList(t, fmt.Sprintf("OnesOf(%v)", x), rows, code, rowsWithOne(x))
	}
	rows, code := impl.OnesOf(impl.Table{Inputs: 5})
	wantList(t, "OnesOf of 0", rows, code, nil)
	rows, code = impl.OnesOf(impl.Table{Inputs: 5, Values: 1<<31 | 1})
	wantList(t, "OnesOf of the first and the last row", rows, code, []int64{0, 31})
	rows, _ = impl.OnesOf(impl.Table{Inputs: 5, Values: 1<<32 - 1})
	if len(rows) != 32 {
		t.Errorf("OnesOf of all rows has %d rows", len(rows))
	}
	for _, x := range noTables {
		rows, code := impl.OnesOf(x)
		wantListError(t, fmt.Sprintf("OnesOf(%v)", x), rows, code, impl.ErrInvalid)
	}
}

func TestTableOfRows(t *testing.T) {
	for _, x := range sampleTables() {
		rows, unchanged := withSpare(rowsWithOne(x))
		y, code := impl.TableOfRows(x.Inputs, rows)
		wantTable(t, fmt.Sprintf("TableOfRows(%d, %v)", x.Inputs, rows), y, code, x)
		if !unchanged() {
			t.Errorf("TableOfRows(%d, %v) changes its list", x.Inputs, rows)
		}
	}
	for n := int64(1); n <= 5; n++ {
		for _, none := range [][]int64{nil, {}} {
			y, code := impl.TableOfRows(n, none)
			wantTable(t, "TableOfRows of no rows", y, code, impl.Table{Inputs: n})
		}
		last := int64(1)<<n - 1
		for _, bad := range [][]int64{{1, 0}, {0, 0}, {last, last}, {last + 1}, {0, last + 1}, {-1}, {-1, 0}, {0, -1}, {last, 0}} {
			y, code := impl.TableOfRows(n, bad)
			wantTableError(t, fmt.Sprintf("TableOfRows(%d, %v)", n, bad), y, code, impl.ErrRange)
		}
		for _, far := range farNumbers {
			if far >= 0 && far <= last {
				continue
			}
			y, code := impl.TableOfRows(n, []int64{far})
			wantTableError(t, fmt.Sprintf("TableOfRows(%d, [%d])", n, far), y, code, impl.ErrRange)
		}
	}
	for _, n := range append([]int64{0, 6}, farNumbers...) {
		for _, rows := range [][]int64{nil, {0}, {0, 1}, {1, 0}} {
			y, code := impl.TableOfRows(n, rows)
			wantTableError(t, fmt.Sprintf("TableOfRows(%d, %v)", n, rows), y, code, impl.ErrRange)
		}
	}
	y, code := impl.TableOfRows(2, make([]int64, 1000))
	wantTableError(t, "TableOfRows of 1000 rows", y, code, impl.ErrRange)
}

// TestTablesFromOneTable looks at the functions of one table and nothing else, row by row.
func TestTablesFromOneTable(t *testing.T) {
	for _, x := range sampleTables() {
		values := valuesOf(x)
		y, code := impl.OppositeOf(x)
		wantTable(t, fmt.Sprintf("OppositeOf(%v)", x), y, code, tableWith(x.Inputs, func(row []int64) int64 {
			return 1 - values[numberOf(row)]
		}))
		y, code = impl.DualOf(x)
		wantTable(t, fmt.Sprintf("DualOf(%v)", x), y, code, tableWith(x.Inputs, func(row []int64) int64 {
			return 1 - values[int64(len(values))-1-numberOf(row)]
		}))
	}
	for _, x := range noTables {
		y, code := impl.OppositeOf(x)
		wantTableError(t, fmt.Sprintf("OppositeOf(%v)", x), y, code, impl.ErrInvalid)
		y, code = impl.DualOf(x)
		wantTableError(t, fmt.Sprintf("DualOf(%v)", x), y, code, impl.ErrInvalid)
		y, code = impl.LeastTable(x)
		wantTableError(t, fmt.Sprintf("LeastTable(%v)", x), y, code, impl.ErrInvalid)
	}
}

// pairFunctions are the functions of two tables, with what they make of two values.
var pairFunctions = []struct {
	name  string
	run   func(t impl.Table, u impl.Table) (impl.Table, int64)
	value func(a int64, b int64) int64
}{
	{"ProductOf", impl.ProductOf, func(a int64, b int64) int64 { return a * b }},
	{"SumOf", impl.SumOf, func(a int64, b int64) int64 { return max(a, b) }},
	{"DifferenceOf", impl.DifferenceOf, func(a int64, b int64) int64 { return (a + b) % 2 }},
}

func TestPairsOfTables(t *testing.T) {
	samples := sampleTables()
	for _, f := range pairFunctions {
		for i := 0; i < len(samples); i += 3 {
			for j := i % 5; j < len(samples); j += 5 {
				x, y := samples[i], samples[j]
				call := fmt.Sprintf("%s(%v, %v)", f.name, x, y)
				z, code := f.run(x, y)
				if x.Inputs != y.Inputs {
					wantTableError(t, call, z, code, impl.ErrRange)
					continue
				}
				a, b := valuesOf(x), valuesOf(y)
				wantTable(t, call, z, code, tableWith(x.Inputs, func(row []int64) int64 {
					return f.value(a[numberOf(row)], b[numberOf(row)])
				}))
			}
		}
	}
}

func TestPairsOfTablesErrors(t *testing.T) {
	for _, f := range pairFunctions {
		for _, bad := range noTables {
			for n := int64(1); n <= 5; n++ {
				good := impl.Table{Inputs: n, Values: 2}
				z, code := f.run(bad, good)
				wantTableError(t, fmt.Sprintf("%s(%v, %v)", f.name, bad, good), z, code, impl.ErrInvalid)
				z, code = f.run(good, bad)
				wantTableError(t, fmt.Sprintf("%s(%v, %v)", f.name, good, bad), z, code, impl.ErrInvalid)
			}
			z, code := f.run(bad, bad)
			wantTableError(t, fmt.Sprintf("%s(%v, %v)", f.name, bad, bad), z, code, impl.ErrInvalid)
		}
		for n := int64(1); n <= 5; n++ {
			for m := int64(1); m <= 5; m++ {
				if n == m {
					continue
				}
				z, code := f.run(impl.Table{Inputs: n, Values: 3}, impl.Table{Inputs: m, Values: 3})
				wantTableError(t, fmt.Sprintf("%s with %d and %d inputs", f.name, n, m), z, code, impl.ErrRange)
			}
		}
	}
}

// partWith returns the part of a table for an input and a value, found by its values.
func partWith(x impl.Table, i int64, value int64) impl.Table {
	values := valuesOf(x)
	return tableWith(x.Inputs, func(row []int64) int64 {
		row[i] = value
		return values[numberOf(row)]
	})
}

func TestPartOf(t *testing.T) {
	for _, x := range sampleTables() {
		for i := range x.Inputs {
			for value := range int64(2) {
				y, code := impl.PartOf(x, i, value)
				wantTable(t, fmt.Sprintf("PartOf(%v, %d, %d)", x, i, value), y, code, partWith(x, i, value))
			}
		}
	}
	for n := int64(1); n <= 5; n++ {
		x := impl.Table{Inputs: n, Values: 1}
		for _, i := range append([]int64{n, n + 1}, farNumbers...) {
			y, code := impl.PartOf(x, i, 0)
			wantTableError(t, fmt.Sprintf("PartOf(%v, %d, 0)", x, i), y, code, impl.ErrRange)
		}
		for _, value := range append([]int64{2, 3}, farNumbers...) {
			y, code := impl.PartOf(x, 0, value)
			wantTableError(t, fmt.Sprintf("PartOf(%v, 0, %d)", x, value), y, code, impl.ErrRange)
		}
	}
	for _, x := range noTables {
		for _, bad := range [][]int64{{0, 0}, {-1, 0}, {0, 2}, {9, 9}} {
			y, code := impl.PartOf(x, bad[0], bad[1])
			wantTableError(t, fmt.Sprintf("PartOf(%v, %d, %d)", x, bad[0], bad[1]), y, code, impl.ErrInvalid)
		}
	}
}

// slopeOf returns the slope of an input, found by comparing the rows that differ in it alone.
func slopeOf(x impl.Table, i int64) int64 {
	values := valuesOf(x)
	up, down := false, false
	for k, value := range values {
		row := digitsOf(int64(k), x.Inputs)
		if row[i] == 1 {
			continue
		}
		row[i] = 1
		up = up || value < values[numberOf(row)]
		down = down || value > values[numberOf(row)]
	}
	switch {
	case up && down:
		return 2
	case up:
		return 1
	case down:
		return -1
	}
	return 0
}

func TestInputsOfTables(t *testing.T) {
	for _, x := range sampleTables() {
		var mattering, slopes []int64
		monotone := true
		for i := range x.Inputs {
			slope := slopeOf(x, i)
			slopes = append(slopes, slope)
			if slope != 0 {
				mattering = append(mattering, i)
			}
			monotone = monotone && (slope == 0 || slope == 1)
		}
		got, code := impl.MatteringInputs(x)
		wantList(t, fmt.Sprintf("MatteringInputs(%v)", x), got, code, mattering)
		got, code = impl.SlopesOf(x)
		wantList(t, fmt.Sprintf("SlopesOf(%v)", x), got, code, slopes)
		if yes, code := impl.IsMonotone(x); yes != monotone || code != impl.ErrNone {
			t.Errorf("IsMonotone(%v) = %v, %d, want %v, 0", x, yes, code, monotone)
		}
	}
	for _, x := range noTables {
		got, code := impl.MatteringInputs(x)
		wantListError(t, fmt.Sprintf("MatteringInputs(%v)", x), got, code, impl.ErrInvalid)
		got, code = impl.SlopesOf(x)
		wantListError(t, fmt.Sprintf("SlopesOf(%v)", x), got, code, impl.ErrInvalid)
		if yes, code := impl.IsMonotone(x); yes || code != impl.ErrInvalid {
			t.Errorf("IsMonotone(%v) = %v, %d, want false, ErrInvalid", x, yes, code)
		}
	}
}

// TestListsAreNew writes on lists that were returned, and asks for them again.
func TestListsAreNew(t *testing.T) {
	x := impl.Table{Inputs: 3, Values: 0b10010110}
	for name, run := range map[string]func(impl.Table) ([]int64, int64){"OnesOf": impl.OnesOf, "MatteringInputs": impl.MatteringInputs, "SlopesOf": impl.SlopesOf} {
		first, _ := run(x)
		want := slices.Clone(first)
		for i := range first {
			first[i] = 99
		}
		again, code := run(x)
		wantList(t, name+" once more", again, code, want)
	}
}

// renameWith returns a table with its inputs renamed, found by its values.
func renameWith(x impl.Table, p []int64) impl.Table {
	values := valuesOf(x)
	return tableWith(x.Inputs, func(row []int64) int64 {
		from := make([]int64, x.Inputs)
		for i := range from {
			from[i] = row[p[i]]
		}
		return values[numberOf(from)]
	})
}

func TestRenameInputs(t *testing.T) {
	for at, x := range sampleTables() {
		for number, p := range allOrders(x.Inputs) {
			if x.Inputs > 3 && (at+number)%7 != 0 {
				continue
			}
			list, unchanged := withSpare(p)
			y, code := impl.RenameInputs(x, list)
			wantTable(t, fmt.Sprintf("RenameInputs(%v, %v)", x, p), y, code, renameWith(x, p))
			if !unchanged() {
				t.Errorf("RenameInputs(%v, %v) changes its list", x, p)
			}
		}
	}
	// The letter of the input i becomes that of the input p(i).
	p := []int64{3, 0, 4, 1, 2}
	for i := range int64(5) {
		letter, _ := impl.LetterTable(5, i)
		want, _ := impl.LetterTable(5, p[i])
		y, code := impl.RenameInputs(letter, p)
		wantTable(t, fmt.Sprintf("RenameInputs of the letter %d", i), y, code, want)
	}
}

func TestRenameInputsErrors(t *testing.T) {
	bad := map[int64][][]int64{
		1: {nil, {1}, {-1}, {0, 0}, {0, 1}},
		2: {nil, {0}, {1}, {0, 0}, {1, 1}, {0, 2}, {2, 1}, {-1, 0}, {0, -1}, {0, 1, 2}, {0, 1, 1}, {1, 2}},
		5: {nil, {0, 1, 2, 3}, {0, 1, 2, 3, 3}, {0, 1, 2, 3, 5}, {1, 2, 3, 4, 5}, {-1, 0, 1, 2, 3}, {0, 1, 2, 3, 4, 5}, {4, 3, 2, 1, 1}, {0, 0, 0, 0, 10}, {2, 2, 2, 2, 2}},
	}
	for n, lists := range bad {
		x := impl.Table{Inputs: n, Values: 2}
		for _, p := range lists {
			y, code := impl.RenameInputs(x, p)
			wantTableError(t, fmt.Sprintf("RenameInputs(%v, %v)", x, p), y, code, impl.ErrRange)
		}
		for _, far := range farNumbers {
			p := make([]int64, n)
			for i := range p {
				p[i] = int64(i)
			}
			p[n-1] = far
			y, code := impl.RenameInputs(x, p)
			wantTableError(t, fmt.Sprintf("RenameInputs(%v, %v)", x, p), y, code, impl.ErrRange)
		}
	}
	for _, x := range noTables {
		for _, p := range [][]int64{nil, {0}, {0, 1, 2, 3, 4}, {7, 7}} {
			y, code := impl.RenameInputs(x, p)
			wantTableError(t, fmt.Sprintf("RenameInputs(%v, %v)", x, p), y, code, impl.ErrInvalid)
		}
	}
}

func TestTurnInput(t *testing.T) {
	for _, x := range sampleTables() {
		values := valuesOf(x)
		for i := range x.Inputs {
			y, code := impl.TurnInput(x, i)
			wantTable(t, fmt.Sprintf("TurnInput(%v, %d)", x, i), y, code, tableWith(x.Inputs, func(row []int64) int64 {
				row[i] = 1 - row[i]
				return values[numberOf(row)]
			}))
		}
		for _, i := range append([]int64{x.Inputs, x.Inputs + 1}, farNumbers...) {
			y, code := impl.TurnInput(x, i)
			wantTableError(t, fmt.Sprintf("TurnInput(%v, %d)", x, i), y, code, impl.ErrRange)
		}
	}
	for _, x := range noTables {
		for _, i := range []int64{0, -1, 9} {
			y, code := impl.TurnInput(x, i)
			wantTableError(t, fmt.Sprintf("TurnInput(%v, %d)", x, i), y, code, impl.ErrInvalid)
		}
	}
}

func TestLeastTable(t *testing.T) {
	for _, x := range sampleTables() {
		want := x
		for _, p := range allOrders(x.Inputs) {
			if y := renameWith(x, p); y.Values < want.Values {
				want = y
			}
		}
		y, code := impl.LeastTable(x)
		wantTable(t, fmt.Sprintf("LeastTable(%v)", x), y, code, want)
	}
	letter, _ := impl.LetterTable(5, 4)
	want, _ := impl.LetterTable(5, 4)
	for i := range int64(5) {
		if y, _ := impl.LetterTable(5, i); y.Values < want.Values {
			want = y
		}
	}
	y, code := impl.LeastTable(letter)
	wantTable(t, "LeastTable of a letter", y, code, want)
}

func TestWidenTable(t *testing.T) {
	for _, x := range sampleTables() {
		values := valuesOf(x)
		for n := x.Inputs; n <= 5; n++ {
			y, code := impl.WidenTable(x, n)
			wantTable(t, fmt.Sprintf("WidenTable(%v, %d)", x, n), y, code, tableWith(n, func(row []int64) int64 {
				return values[numberOf(row[:x.Inputs])]
			}))
		}
		for _, n := range append([]int64{x.Inputs - 1, 0, 6, 7}, farNumbers...) {
			y, code := impl.WidenTable(x, n)
			wantTableError(t, fmt.Sprintf("WidenTable(%v, %d)", x, n), y, code, impl.ErrRange)
		}
	}
	for _, x := range noTables {
		for _, n := range []int64{5, 0, 6, -1} {
			y, code := impl.WidenTable(x, n)
			wantTableError(t, fmt.Sprintf("WidenTable(%v, %d)", x, n), y, code, impl.ErrInvalid)
		}
	}
}

func TestConstantTable(t *testing.T) {
	for n := int64(1); n <= 5; n++ {
		for value := range int64(2) {
			y, code := impl.ConstantTable(n, value)
			wantTable(t, fmt.Sprintf("ConstantTable(%d, %d)", n, value), y, code, tableWith(n, func([]int64) int64 { return value }))
		}
		for _, value := range append([]int64{2, 3}, farNumbers...) {
			y, code := impl.ConstantTable(n, value)
			wantTableError(t, fmt.Sprintf("ConstantTable(%d, %d)", n, value), y, code, impl.ErrRange)
		}
	}
	for _, n := range append([]int64{0, 6}, farNumbers...) {
		for _, value := range []int64{0, 1, 2} {
			y, code := impl.ConstantTable(n, value)
			wantTableError(t, fmt.Sprintf("ConstantTable(%d, %d)", n, value), y, code, impl.ErrRange)
		}
	}
}

func TestLetterTable(t *testing.T) {
	for n := int64(1); n <= 5; n++ {
		for i := range n {
			y, code := impl.LetterTable(n, i)
			wantTable(t, fmt.Sprintf("LetterTable(%d, %d)", n, i), y, code, tableWith(n, func(row []int64) int64 { return row[i] }))
		}
		for _, i := range append([]int64{n, n + 1}, farNumbers...) {
			y, code := impl.LetterTable(n, i)
			wantTableError(t, fmt.Sprintf("LetterTable(%d, %d)", n, i), y, code, impl.ErrRange)
		}
	}
	for _, n := range append([]int64{0, 6}, farNumbers...) {
		for _, i := range []int64{0, 4, 5, -1} {
			y, code := impl.LetterTable(n, i)
			wantTableError(t, fmt.Sprintf("LetterTable(%d, %d)", n, i), y, code, impl.ErrRange)
		}
	}
	// The example of the document.
	y, _ := impl.LetterTable(2, 1)
	if text, code := impl.TableText(y); text != "2:0011" || code != impl.ErrNone {
		t.Errorf("the letter of 2 and 1 is %q, %d", text, code)
	}
}

// textWith returns the text of a table, found by its values.
func textWith(x impl.Table) string {
	text := strconv.Itoa(int(x.Inputs)) + ":"
	for _, value := range valuesOf(x) {
		text += strconv.Itoa(int(value))
	}
	return text
}

func TestTableText(t *testing.T) {
	for _, x := range sampleTables() {
		text, code := impl.TableText(x)
		if text != textWith(x) || code != impl.ErrNone {
			t.Errorf("TableText(%v) = %q, %d, want %q, 0", x, text, code, textWith(x))
		}
		y, code := impl.ParseTable(textWith(x))
		wantTable(t, fmt.Sprintf("ParseTable(%q)", textWith(x)), y, code, x)
	}
	for text, x := range map[string]impl.Table{
		"1:10":                               {Inputs: 1, Values: 1},
		"1:01":                               {Inputs: 1, Values: 2},
		"2:0001":                             {Inputs: 2, Values: 8},
		"3:11001010":                         {Inputs: 3, Values: 0b01010011},
		"5:" + strings.Repeat("1", 32):       {Inputs: 5, Values: 1<<32 - 1},
		"5:" + strings.Repeat("0", 31) + "1": {Inputs: 5, Values: 1 << 31},
	} {
		if got, code := impl.TableText(x); got != text || code != impl.ErrNone {
			t.Errorf("TableText(%v) = %q, %d, want %q, 0", x, got, code, text)
		}
		y, code := impl.ParseTable(text)
		wantTable(t, fmt.Sprintf("ParseTable(%q)", text), y, code, x)
	}
	for _, x := range noTables {
		if text, code := impl.TableText(x); text != "" || code != impl.ErrInvalid {
			t.Errorf("TableText(%v) = %q, %d, want \"\", ErrInvalid", x, text, code)
		}
	}
}

func TestParseTableErrors(t *testing.T) {
	bad := []string{
		"", ":", "2", "2:", ":01", "1", "1:", "1:0", "1:010", "2:011", "2:01111", "0:", "0:0", "0:1", "6:", "6:0", "7:01", "9:01",
		"6:" + strings.Repeat("0", 64), "5:" + strings.Repeat("1", 31), "5:" + strings.Repeat("1", 33), "02:0111", "002:0111", "2:0121", "2:/111", "2:01a1",
		"2:0111:", "2:0111 ", "2:0111\n", " 2:0111", "2 :0111", "2: 0111", "+2:0111", "-2:0111", "2;0111", "20111", "2::0111", "2:01-1", "2:01\x001", "2:011\xb1",
		"\x00:0111", "a:0111", "\xff:0111", "٢:0111", "2:०111", "01:01", "10:01", "1:\x00\x01", "1:1١", "12:01", "1 01", "1:11\x00",
	}
	for _, text := range bad {
		y, code := impl.ParseTable(text)
		wantTableError(t, fmt.Sprintf("ParseTable(%q)", text), y, code, impl.ErrSyntax)
	}
	// Of the texts with one byte changed only those with another value are texts of tables.
	for at := range len("2:0110") {
		for sign := range 256 {
			text := []byte("2:0110")
			text[at] = byte(sign)
			y, code := impl.ParseTable(string(text))
			good := at == 0 && sign == '2' || at == 1 && sign == ':' || at > 1 && (sign == '0' || sign == '1')
			if good != (code == impl.ErrNone) || !good && (code != impl.ErrSyntax || y != impl.Table{}) {
				t.Errorf("ParseTable(%q) = %v, %d", text, y, code)
			}
		}
	}
}

// TestPromise1 checks the first promise by the functions of the chapter alone.
func TestPromise1(t *testing.T) {
	for _, x := range sampleTables() {
		opposite, _ := impl.OppositeOf(x)
		y, code := impl.OppositeOf(opposite)
		wantTable(t, fmt.Sprintf("the opposite table of that of %v", x), y, code, x)
		dual, _ := impl.DualOf(x)
		y, code = impl.DualOf(dual)
		wantTable(t, fmt.Sprintf("the dual table of that of %v", x), y, code, x)
		for i := range x.Inputs {
			letter, _ := impl.LetterTable(x.Inputs, i)
			other, _ := impl.OppositeOf(letter)
			zero, _ := impl.PartOf(x, i, 0)
			one, _ := impl.PartOf(x, i, 1)
			zero, _ = impl.ProductOf(zero, other)
			one, _ = impl.ProductOf(one, letter)
			y, code = impl.SumOf(zero, one)
			wantTable(t, fmt.Sprintf("the sum of the parts of %v for %d", x, i), y, code, x)
		}
		text, _ := impl.TableText(x)
		y, code = impl.ParseTable(text)
		wantTable(t, fmt.Sprintf("the table with the text of %v", x), y, code, x)
	}
}

// TestTablesGoBack checks that renamed and turned inputs go back, and that tables come back from
// their rows.
func TestTablesGoBack(t *testing.T) {
	for at, x := range sampleTables() {
		for number, p := range allOrders(x.Inputs) {
			if x.Inputs > 3 && (at+number)%11 != 0 {
				continue
			}
			back := make([]int64, len(p))
			for i, to := range p {
				back[to] = int64(i)
			}
			y, _ := impl.RenameInputs(x, p)
			z, code := impl.RenameInputs(y, back)
			wantTable(t, fmt.Sprintf("%v renamed by %v and back", x, p), z, code, x)
			least, _ := impl.LeastTable(x)
			z, code = impl.LeastTable(y)
			wantTable(t, fmt.Sprintf("the least table of %v renamed by %v", x, p), z, code, least)
		}
		for i := range x.Inputs {
			y, _ := impl.TurnInput(x, i)
			z, code := impl.TurnInput(y, i)
			wantTable(t, fmt.Sprintf("%v turned round at %d and back", x, i), z, code, x)
		}
		rows, _ := impl.OnesOf(x)
		y, code := impl.TableOfRows(x.Inputs, rows)
		wantTable(t, fmt.Sprintf("the table of the rows of %v", x), y, code, x)
	}
}
