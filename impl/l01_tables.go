package impl

import (
	"iter"
	"slices"
	"strconv"
)

const (
	ErrNone = iota
	ErrInvalid
	ErrRange
	ErrLimit
	ErrNotFound
	ErrState
	ErrSyntax
)
const MaxInputs = 5

type Table struct {
	Inputs int64
	Values int64
}

// IsTable reports whether t is a table.
func IsTable(t Table) bool {
	return isInputCount(t.Inputs) && t.Values >= 0 && t.Values <= allRows(t.Inputs)
}

// ValueInRow returns the value in the row k, and ErrNone.
func ValueInRow(t Table, k int64) (int64, int64) {
	if !IsTable(t) {
		return 0, ErrInvalid
	}
	if !isBelow(k, rowCount(t.Inputs)) {
		return 0, ErrRange
	}
	return valueAt(t, k), ErrNone
}

// OnesOf returns the rows whose value is 1, ascending, and ErrNone.
func OnesOf(t Table) ([]int64, int64) {
	if !IsTable(t) {
		return nil, ErrInvalid
	}
	var rows []int64
	for k := range rowCount(t.Inputs) {
		if valueAt(t, k) == 1 {
			rows = append(rows, k)
		}
	}
	return rows, ErrNone
}

// TableOfRows returns the table of n inputs, n in 1..MaxInputs, that has 1 in the rows of an
// ascending list of different rows, and 0 in all others, and ErrNone.
func TableOfRows(n int64, rows []int64) (Table, int64) {
	if !isInputCount(n) || !isAscendingBelow(rows, rowCount(n)) {
		return Table{}, ErrRange
	}
	t := Table{Inputs: n}
	for _, k := range rows {
		t.Values |= 1 << k
	}
	return t, ErrNone
}

// OppositeOf returns the opposite table, and ErrNone.
func OppositeOf(t Table) (Table, int64) {
	if !IsTable(t) {
		return Table{}, ErrInvalid
	}
	return opposite(t), ErrNone
}

// DualOf returns the dual table, and ErrNone.
func DualOf(t Table) (Table, int64) {
	if !IsTable(t) {
		return Table{}, ErrInvalid
	}
	last := rowCount(t.Inputs) - 1
	return opposite(tableFrom(t, t.Inputs, func(k int64) int64 { return last - k })), ErrNone
}

// ProductOf returns the product, and ErrNone.
func ProductOf(t Table, u Table) (Table, int64) {
	if code := pairError(t, u); code != ErrNone {
		return Table{}, code
	}
	return Table{Inputs: t.Inputs, Values: t.Values & u.Values}, ErrNone
}

// SumOf returns the sum, and ErrNone.
func SumOf(t Table, u Table) (Table, int64) {
	if code := pairError(t, u); code != ErrNone {
		return Table{}, code
	}
	return Table{Inputs: t.Inputs, Values: t.Values | u.Values}, ErrNone
}

// DifferenceOf returns the difference, and ErrNone.
func DifferenceOf(t Table, u Table) (Table, int64) {
	if code := pairError(t, u); code != ErrNone {
		return Table{}, code
	}
	return Table{Inputs: t.Inputs, Values: t.Values ^ u.Values}, ErrNone
}

// PartOf returns the part of t for the input i and a value, 0 or 1, and ErrNone.
func PartOf(t Table, i int64, value int64) (Table, int64) {
	if !IsTable(t) {
		return Table{}, ErrInvalid
	}
	if !isBelow(i, t.Inputs) || !isBelow(value, 2) {
		return Table{}, ErrRange
	}
	return part(t, i, value), ErrNone
}

// MatteringInputs returns the inputs that matter, ascending, and ErrNone.
func MatteringInputs(t Table) ([]int64, int64) {
	if !IsTable(t) {
		return nil, ErrInvalid
	}
	var inputs []int64
	for i := range t.Inputs {
		if part(t, i, 0) != part(t, i, 1) {
			inputs = append(inputs, i)
		}
	}
	return inputs, ErrNone
}

// SlopesOf returns for each input 0 if it does not matter, 1 if it matters and t rises with it, -1
// if it matters and t falls with it, and 2 otherwise, and ErrNone.
func SlopesOf(t Table) ([]int64, int64) {
	if !IsTable(t) {
		return nil, ErrInvalid
	}
	return slopes(t), ErrNone
}

// IsMonotone reports whether t is monotone, and returns ErrNone.
func IsMonotone(t Table) (bool, int64) {
	if !IsTable(t) {
		return false, ErrInvalid
	}
	for _, slope := range slopes(t) {
		if slope != 0 && slope != 1 {
			return false, ErrNone
		}
	}
	return true, ErrNone
}

// RenameInputs returns t with its inputs renamed by p, and ErrNone.
func RenameInputs(t Table, p []int64) (Table, int64) {
	if !IsTable(t) {
		return Table{}, ErrInvalid
	}
	if !isOrder(p, t.Inputs) {
		return Table{}, ErrRange
	}
	return renamed(t, p), ErrNone
}

// TurnInput returns t with the input i turned round, and ErrNone.
func TurnInput(t Table, i int64) (Table, int64) {
	if !IsTable(t) {
		return Table{}, ErrInvalid
	}
	if !isBelow(i, t.Inputs) {
		return Table{}, ErrRange
	}
	return tableFrom(t, t.Inputs, func(k int64) int64 { return k ^ 1<<i }), ErrNone
}

// LeastTable returns the table with the least number Values that comes from t by renaming inputs,
// and ErrNone.
func LeastTable(t Table) (Table, int64) {
	if !IsTable(t) {
		return Table{}, ErrInvalid
	}
	least := t
	for u := range renamings(t) {
		if u.Values < least.Values {
			least = u
		}
	}
	return least, ErrNone
}

// WidenTable returns the table of n inputs, from the Inputs of t to MaxInputs, whose value in each
// row is that of t for the first inputs, and ErrNone.
func WidenTable(t Table, n int64) (Table, int64) {
	if !IsTable(t) {
		return Table{}, ErrInvalid
	}
	if n < t.Inputs || n > MaxInputs {
		return Table{}, ErrRange
	}
	last := rowCount(t.Inputs) - 1
	return tableFrom(t, n, func(k int64) int64 { return k & last }), ErrNone
}

// ConstantTable returns the table of n inputs, n in 1..MaxInputs, with the same value, 0 or 1, in
// all rows, and ErrNone.
func ConstantTable(n int64, value int64) (Table, int64) {
	if !isInputCount(n) || !isBelow(value, 2) {
		return Table{}, ErrRange
	}
	return Table{Inputs: n, Values: value * allRows(n)}, ErrNone
}

// LetterTable returns the letter of the input i as a table of n inputs, n in 1..MaxInputs, and
// ErrNone.
func LetterTable(n int64, i int64) (Table, int64) {
	if !isInputCount(n) || !isBelow(i, n) {
		return Table{}, ErrRange
	}
	t := Table{Inputs: n}
	for k := range rowCount(n) {
		t.Values |= digitAt(k, i) << k
	}
	return t, ErrNone
}

// TableText returns the text of t, and ErrNone.
func TableText(t Table) (string, int64) {
	if !IsTable(t) {
		return "", ErrInvalid
	}
	text := append(strconv.AppendInt(nil, t.Inputs, 10), ':')
	for k := range rowCount(t.Inputs) {
		text = append(text, '0'+byte(valueAt(t, k)))
	}
	return string(text), ErrNone
}

// ParseTable returns the table with a text, and ErrNone. Errors: ErrSyntax if there is none. (No
// other errors are returned.)
func ParseTable(text string) (Table, int64) {
	if len(text) < 2 || text[1] != ':' {
		return Table{}, ErrSyntax
	}
	t := Table{Inputs: int64(text[0]) - '0'}
	values := text[2:]
	if !isInputCount(t.Inputs) || int64(len(values)) != rowCount(t.Inputs) {
		return Table{}, ErrSyntax
	}
	for k := range len(values) {
		if values[k] != '0' && values[k] != '1' {
			return Table{}, ErrSyntax
		}
		t.Values |= int64(values[k]-'0') << k
	}
	return t, ErrNone
}

// isInputCount reports whether a table can have n inputs. It is asked before any shift by n, as a
// shift by a negative number panics.
func isInputCount(n int64) bool {
	return n >= 1 && n <= MaxInputs
}

// isBelow reports whether x is one of the numbers 0 to limit - 1.
func isBelow(x int64, limit int64) bool {
	return x >= 0 && x < limit
}

// isAscendingBelow reports whether a list is strictly ascending, of numbers 0 to limit - 1.
func isAscendingBelow(list []int64, limit int64) bool {
	for i, x := range list {
		if !isBelow(x, limit) || i > 0 && x <= list[i-1] {
			return false
		}
	}
	return true
}

// isOrder reports whether a list has each of the numbers 0 to n - 1 just once.
func isOrder(p []int64, n int64) bool {
	return int64(len(p)) == n && isAscendingBelow(slices.Sorted(slices.Values(p)), n)
}

// pairError returns the error of two tables that are joined row by row.
func pairError(t Table, u Table) int64 {
	if !IsTable(t) || !IsTable(u) {
		return ErrInvalid
	}
	if t.Inputs != u.Inputs {
		return ErrRange
	}
	return ErrNone
}

// rowCount returns the number of rows of a table of n inputs.
func rowCount(n int64) int64 {
	return 1 << n
}

// allRows returns the Values of the table of n inputs that has 1 in all rows.
func allRows(n int64) int64 {
	return 1<<rowCount(n) - 1
}

// digitAt returns the digit of x in base 2 at a place.
func digitAt(x int64, place int64) int64 {
	return x >> place & 1
}

// valueAt returns the value of t in one of its rows.
func valueAt(t Table, k int64) int64 {
	return digitAt(t.Values, k)
}

// tableFrom returns the table of n inputs whose value in each row k is that of t in the row from(k).
func tableFrom(t Table, n int64, from func(k int64) int64) Table {
	u := Table{Inputs: n}
	for k := range rowCount(n) {
		u.Values |= valueAt(t, from(k)) << k
	}
	return u
}

// opposite returns the opposite table of a table.
func opposite(t Table) Table {
	return Table{Inputs: t.Inputs, Values: t.Values ^ allRows(t.Inputs)}
}

// part returns the part of a table for one of its inputs and a value.
func part(t Table, i int64, value int64) Table {
	return tableFrom(t, t.Inputs, func(k int64) int64 { return k&^(1<<i) | value<<i })
}

// slopes returns the slopes of a table.
func slopes(t Table) []int64 {
	list := make([]int64, t.Inputs)
	for i := range t.Inputs {
		zero, one := part(t, i, 0), part(t, i, 1)
		switch {
		case zero == one:
			list[i] = 0
		case zero.Values&^one.Values == 0:
			list[i] = 1
		case one.Values&^zero.Values == 0:
			list[i] = -1
		default:
			list[i] = 2
		}
	}
	return list
}

// renamed returns a table with its inputs renamed by an order of them.
func renamed(t Table, p []int64) Table {
	return tableFrom(t, t.Inputs, func(k int64) int64 {
		row := int64(0)
		for i, from := range p {
			row |= digitAt(k, from) << i
		}
		return row
	})
}

// renamings returns the tables that come from a table by renaming inputs. They are the keys of a
// map because many orders lead to the same table.
func renamings(t Table) map[Table]bool {
	reached := map[Table]bool{}
	for p := range orders(t.Inputs) {
		reached[renamed(t, p)] = true
	}
	return reached
}

// orders ranges over all orders of the numbers 0 to n - 1, each as a list of its own.
func orders(n int64) iter.Seq[[]int64] {
	return func(yield func([]int64) bool) {
		yieldOrders(n, nil, yield)
	}
}

// yieldOrders yields the orders that begin with the given numbers, and reports whether more are
// wanted.
func yieldOrders(n int64, begun []int64, yield func([]int64) bool) bool {
	if int64(len(begun)) == n {
		return yield(slices.Clone(begun))
	}
	for i := range n {
		if !slices.Contains(begun, i) && !yieldOrders(n, append(begun, i), yield) {
			return false
		}
	}
	return true
}
