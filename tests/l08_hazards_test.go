package tests

import (
	"fmt"
	"math/rand"
	"slices"
	"strings"
	"testing"

	"loop.example/g01392/impl"
)

// closedRows returns the rows in which a contact is closed, each as the digit at its place.
func closedRows(letter byte) uint32 {
	place := strings.IndexByte("aAbBcCdDeE", letter)
	rows := uint32(0)
	for row := range int64(32) {
		if digitsOf(row, 5)[place/2] == int64(1-place%2) {
			rows |= 1 << row
		}
	}
	return rows
}

// onesWith returns the rows in which a formula has the value 1 if each contact is closed in the rows
// that are told for its letter: all rows at once, as digits.
func onesWith(w string, closed func(letter byte) uint32) uint32 {
	switch w[0] {
	case '0':
		return 0
	case '1':
		return 1<<32 - 1
	case '(':
		ones := uint32(1<<32 - 1)
		for _, member := range membersWith(w) {
			ones &= onesWith(member, closed)
		}
		return ones
	case '[':
		ones := uint32(0)
		for _, member := range membersWith(w) {
			ones |= onesWith(member, closed)
		}
		return ones
	}
	return closed(w[0])
}

// knownMoments has for a formula the rows with the value 1, and those in the gap and in the bridge of
// each input, as digits.
type knownMoments struct {
	rows    uint32
	gaps    [5]uint32
	bridges [5]uint32
}

// momentsWith returns what is known of the moments of a formula.
func momentsWith(w string) knownMoments {
	known := knownMoments{rows: onesWith(w, closedRows)}
	for input := range 5 {
		during := func(rows uint32) uint32 {
			return onesWith(w, func(letter byte) uint32 {
				if strings.IndexByte("aAbBcCdDeE", letter)/2 == input {
					return rows
				}
				return closedRows(letter)
			})
		}
		known.gaps[input], known.bridges[input] = during(0), during(1<<32-1)
	}
	return known
}

// in returns the digit of rows at the place of a row.
func in(rows uint32, row int64) int64 {
	return int64(rows >> row & 1)
}

// flickers returns the flickers for n inputs, in order.
func (known knownMoments) flickers(n int64) [][]int64 {
	var list [][]int64
	for row := range int64(1) << n {
		for input, digit := range digitsOf(row, n) {
			other := row + 1<<input
			switch {
			case digit == 1 || in(known.rows, row) != in(known.rows, other):
			case in(known.rows, row) == 1 && in(known.gaps[input], row) == 0:
				list = append(list, []int64{row, int64(input), 0})
			case in(known.rows, row) == 0 && in(known.bridges[input], row) == 1:
				list = append(list, []int64{row, int64(input), 1})
			}
		}
	}
	return list
}

// withSign returns a formula with a sign in the place of all contacts of an input.
func withSign(w string, input int64, sign string) string {
	return strings.NewReplacer("abcde"[input:input+1], sign, "ABCDE"[input:input+1], sign).Replace(w)
}

// flickeringByHand are formulas that flicker and such as do not, beside those of chapter 4.
var flickeringByHand = []string{
	"[(ab)(Ac)]", "([ab][Ac])", "[(ab)(Ac)(bc)]", "([ab][Ac][bc])", "[(b[aA])(aA)]", "([aA][bB])", "[(aA)(bB)]", "[(aA)(bB)(cC)(dD)(eE)]", "([aA][bB][cC][dD][eE])",
	"[aA1]", "(aA0)", "[(aA)1]", "([aA]0)", "[eE]", "(eE)", "[(ae)(bE)]", "([cd][aD])", "[(aB)(Ab)]", "[(ab)(AB)]", "[(ab)(Ab)]", "([ab][Ab])", "(a[Ab])", "[a(Ab)]", "[(bc)(Ac)(ab)]",
}

// bothFlickers returns formulas with flickers of both kinds: for each two inputs x and y those that are
// [yY] if x is 1 and (yY) if it is 0, and with the brackets of both kinds exchanged.
func bothFlickers() []string {
	var list []string
	for x, letter := range strings.Split("abcde", "") {
		for y, other := range strings.Split("abcde", "") {
			if x != y {
				two := other + strings.ToUpper(other)
				list = append(list, "[("+letter+"["+two+"])("+strings.ToUpper(letter)+"("+two+"))]", "(["+letter+"("+two+")]["+strings.ToUpper(letter)+"["+two+"]])")
			}
		}
	}
	return list
}

// formulasWithMoments returns formulas that can flicker and such as cannot.
func formulasWithMoments() []string {
	return slices.Concat(sampleFormulas(), smallFormulas(), flickeringByHand, bothFlickers())
}

// kindOfContacts tells which contacts of an input a formula has.
func kindOfContacts(w string, input int64) string {
	makes, breaks := strings.Contains(w, "abcde"[input:input+1]), strings.Contains(w, "ABCDE"[input:input+1])
	switch {
	case makes && breaks:
		return "both contacts"
	case makes:
		return "make contacts"
	case breaks:
		return "break contacts"
	}
	return "no contacts"
}

func TestValuesInMoments(t *testing.T) {
	kinds := map[string]int{}
	for at, w := range formulasWithMoments() {
		known := momentsWith(w)
		for row := range int64(32) {
			for input := range int64(5) {
				if row > 0 && row < 31 && (row+input+int64(at))%7 != 0 {
					continue
				}
				gap, code := impl.ValueInGap(w, row, input)
				wantNumber(t, fmt.Sprintf("ValueInGap(%q, %d, %d)", w, row, input), gap, code, in(known.gaps[input], row))
				bridge, code := impl.ValueInBridge(w, row, input)
				wantNumber(t, fmt.Sprintf("ValueInBridge(%q, %d, %d)", w, row, input), bridge, code, in(known.bridges[input], row))
				kinds[fmt.Sprintf("%s, %d, %d, %d", kindOfContacts(w, input), in(known.rows, row), gap, bridge)]++
			}
		}
	}
	for _, contacts := range []string{"both contacts", "make contacts", "break contacts"} {
		wantKinds(t, kinds, contacts+", 0, 0, 0", contacts+", 0, 0, 1", contacts+", 1, 0, 1", contacts+", 1, 1, 1")
	}
	wantKinds(t, kinds, "no contacts, 0, 0, 0", "no contacts, 1, 1, 1")
	if kinds["no contacts, 0, 0, 1"] != 0 || kinds["no contacts, 1, 0, 1"] != 0 {
		t.Errorf("an input that no contact has changes values: %v", kinds)
	}
}

// TestValuesInMomentsOfTexts puts what is open, or closed, into the text of a formula, and looks at
// its value.
func TestValuesInMomentsOfTexts(t *testing.T) {
	for _, w := range append(slices.Clone(formulasByHand), flickeringByHand...) {
		for row := range int64(32) {
			for input := range int64(5) {
				gap, code := impl.ValueInGap(w, row, input)
				wantNumber(t, fmt.Sprintf("ValueInGap(%q, %d, %d)", w, row, input), gap, code, valueWith(withSign(w, input, "0"), row))
				bridge, code := impl.ValueInBridge(w, row, input)
				wantNumber(t, fmt.Sprintf("ValueInBridge(%q, %d, %d)", w, row, input), bridge, code, valueWith(withSign(w, input, "1"), row))
			}
		}
	}
}

func TestValuesInMomentsByHand(t *testing.T) {
	for _, c := range []struct {
		w           string
		row, input  int64
		gap, bridge int64
	}{
		{"0", 0, 0, 0, 0}, {"0", 31, 4, 0, 0}, {"1", 0, 0, 1, 1}, {"1", 31, 4, 1, 1},
		{"a", 0, 0, 0, 1}, {"a", 1, 0, 0, 1}, {"a", 30, 0, 0, 1}, {"a", 31, 0, 0, 1}, {"A", 0, 0, 0, 1}, {"A", 1, 0, 0, 1}, {"A", 31, 0, 0, 1},
		{"e", 0, 4, 0, 1}, {"e", 16, 4, 0, 1}, {"e", 31, 4, 0, 1}, {"E", 0, 4, 0, 1}, {"E", 15, 4, 0, 1}, {"E", 31, 4, 0, 1},
		{"a", 0, 4, 0, 0}, {"a", 31, 4, 1, 1}, {"a", 1, 1, 1, 1}, {"a", 30, 1, 0, 0}, {"A", 0, 4, 1, 1}, {"A", 31, 4, 0, 0}, {"e", 16, 0, 1, 1}, {"e", 15, 0, 0, 0}, {"E", 31, 0, 0, 0},
		{"(aA)", 0, 0, 0, 1}, {"(aA)", 1, 0, 0, 1}, {"(aA)", 31, 0, 0, 1}, {"(aA)", 31, 1, 0, 0}, {"[aA]", 0, 0, 0, 1}, {"[aA]", 30, 0, 0, 1}, {"[aA]", 31, 0, 0, 1}, {"[aA]", 0, 2, 1, 1},
		{"[(ab)(Ac)]", 6, 0, 0, 1}, {"[(ab)(Ac)]", 7, 0, 0, 1}, {"[(ab)(Ac)]", 2, 0, 0, 1}, {"[(ab)(Ac)]", 0, 0, 0, 0}, {"[(ab)(Ac)]", 31, 1, 0, 1}, {"[(ab)(Ac)]", 6, 1, 1, 1}, {"[(ab)(Ac)]", 7, 2, 1, 1}, {"[(ab)(Ac)]", 31, 3, 1, 1},
		{"([ab][Ac])", 0, 0, 0, 1}, {"([ab][Ac])", 1, 0, 0, 1}, {"([ab][Ac])", 6, 0, 1, 1}, {"([ab][Ac])", 4, 0, 0, 1}, {"([ab][Ac])", 0, 1, 0, 1}, {"([ab][Ac])", 1, 1, 0, 0},
		{"(abcde)", 31, 0, 0, 1}, {"(abcde)", 30, 0, 0, 1}, {"(abcde)", 31, 4, 0, 1}, {"(abcde)", 15, 0, 0, 0}, {"[ABCDE]", 31, 2, 0, 1}, {"[ABCDE]", 27, 2, 0, 1}, {"[ABCDE]", 27, 3, 1, 1}, {"(abcdeABCDE)", 31, 0, 0, 0}, {"[abcdeABCDE]", 0, 0, 1, 1},
		{"[(aA)b]", 2, 0, 1, 1}, {"([aA]b)", 0, 0, 0, 0}, {"([aA]b)", 2, 0, 0, 1}, {"(a[b(cA)])", 3, 0, 0, 1}, {"(a[b(cA)])", 5, 0, 0, 1},
		{atLimit, 0, 0, 0, 0}, {atLimit, 31, 4, 0, 0}, {nestedAtLimit, 31, 0, 0, 1}, {nestedAtLimit, 31, 1, 0, 1}, {nestedAtLimit, 0, 4, 0, 0},
	} {
		// The row in which the input has its other value has the same moments.
		for _, row := range []int64{c.row, c.row ^ 1<<c.input} {
			got, code := impl.ValueInGap(c.w, row, c.input)
			wantNumber(t, fmt.Sprintf("ValueInGap(%q, %d, %d)", c.w, row, c.input), got, code, c.gap)
			got, code = impl.ValueInBridge(c.w, row, c.input)
			wantNumber(t, fmt.Sprintf("ValueInBridge(%q, %d, %d)", c.w, row, c.input), got, code, c.bridge)
		}
	}
}

// momentFunctions are the functions that tell of the value in a moment.
var momentFunctions = map[string]func(w string, row int64, input int64) (int64, int64){
	"ValueInGap": impl.ValueInGap, "ValueInBridge": impl.ValueInBridge,
}

func TestValuesInMomentsErrors(t *testing.T) {
	for name, run := range momentFunctions {
		refused := func(w string, row int64, input int64, want int64) {
			if got, code := run(w, row, input); got != 0 || code != want {
				t.Errorf("%s(%q, %d, %d) = %d, %d, want 0, %d", name, w, row, input, got, code, want)
			}
		}
		for _, w := range []string{"0", "1", "a", "E", "[aA]", "[(ab)(Ac)]", atLimit} {
			for _, far := range farBeyond(31) {
				for input := range int64(5) {
					refused(w, far, input, impl.ErrRange)
				}
				for _, input := range farBeyond(4) {
					refused(w, far, input, impl.ErrRange)
				}
			}
			for _, far := range farBeyond(4) {
				for row := range int64(32) {
					refused(w, row, far, impl.ErrRange)
				}
			}
		}
		for _, w := range noFormulas {
			for _, number := range append([]int64{0, 4, 5, 31}, farNumbers...) {
				refused(w, number, 0, impl.ErrSyntax)
				refused(w, 31, number, impl.ErrSyntax)
				refused(w, number, number, impl.ErrSyntax)
			}
		}
	}
}

// kindOfFlickers tells of which kinds flickers are.
func kindOfFlickers(flickers [][]int64) string {
	kinds := [2]bool{}
	for _, flicker := range flickers {
		kinds[flicker[2]] = true
	}
	switch kinds {
	case [2]bool{true, false}:
		return "kind 0"
	case [2]bool{false, true}:
		return "kind 1"
	case [2]bool{true, true}:
		return "both kinds"
	}
	return "never"
}

func TestFlickersOf(t *testing.T) {
	kinds := map[string]int{}
	for _, w := range formulasWithMoments() {
		known := momentsWith(w)
		for n := int64(1); n <= 5; n++ {
			call := fmt.Sprintf("FlickersOf(%q, %d)", w, n)
			got, code := impl.FlickersOf(w, n)
			if n < inputsOfFormula(w) {
				wantListsError(t, call, got, code, impl.ErrRange)
				kinds["too few"]++
				continue
			}
			want := known.flickers(n)
			wantLists(t, call, got, code, want)
			if !slices.IsSortedFunc(want, slices.Compare) {
				t.Errorf("%v is not in lexicographic order", want)
			}
			kinds[kindOfFlickers(want)]++
			if len(want) > 5 {
				kinds["several"]++
			}
			if len(want) == 1 {
				kinds["one"]++
			}
		}
		safe, code := impl.IsSafe(w)
		wantBool(t, fmt.Sprintf("IsSafe(%q)", w), safe, code, len(known.flickers(5)) == 0)
		kinds[fmt.Sprintf("safe %v", safe)]++
	}
	wantKinds(t, kinds, "too few", "kind 0", "kind 1", "both kinds", "never", "several", "one", "safe true", "safe false")
}

// flickersOfText returns the flickers that words tell, each by its row, input and kind.
func flickersOfText(words string) [][]int64 {
	var list [][]int64
	for _, word := range strings.Fields(words) {
		var row, input, kind int64
		if _, err := fmt.Sscanf(word, "%d/%d/%d", &row, &input, &kind); err != nil {
			panic(err)
		}
		list = append(list, []int64{row, input, kind})
	}
	return list
}

func TestFlickersByHand(t *testing.T) {
	for _, c := range []struct {
		w    string
		n    int64
		want string
	}{
		{"[(ab)(Ac)]", 3, "6/0/0"}, // the example of the document
		{"[(ab)(Ac)]", 4, "6/0/0 14/0/0"},
		{"[(ab)(Ac)]", 5, "6/0/0 14/0/0 22/0/0 30/0/0"},
		{"([ab][Ac])", 3, "0/0/1"},
		{"([ab][Ac])", 4, "0/0/1 8/0/1"},
		{"[aA]", 1, "0/0/0"}, {"(aA)", 1, "0/0/1"}, {"[aA]", 2, "0/0/0 2/0/0"}, {"(Aa)", 2, "0/0/1 2/0/1"},
		{"[(b[aA])(aA)]", 2, "0/0/1 2/0/0"},
		{"([aA][bB])", 2, "0/0/0 0/1/0 1/1/0 2/0/0"},
		{"[(aA)(bB)]", 2, "0/0/1 0/1/1 1/1/1 2/0/1"},
		{"[bB]", 2, "0/1/0 1/1/0"}, {"[cC]", 3, "0/2/0 1/2/0 2/2/0 3/2/0"},
		{"(a[aA])", 1, ""}, {"[a(aA)]", 1, ""}, {"(b[aA])", 2, "2/0/0"}, {"[b(aA)]", 2, "0/0/1"},
		{"[(ab)(Ab)]", 2, "2/0/0"}, {"(a[Ab])", 2, "0/0/1"}, {"[a(Ab)]", 2, "2/0/0"},
		// Formulas that never flicker, such among them whose value changes with each input.
		{"[(aB)(Ab)]", 2, ""}, {"([aB][Ab])", 2, ""}, {"[(ab)(AB)]", 2, ""},
		{"0", 1, ""}, {"1", 1, ""}, {"0", 5, ""}, {"1", 5, ""}, {"a", 1, ""}, {"A", 1, ""}, {"a", 5, ""}, {"E", 5, ""}, {"(ab)", 2, ""}, {"[ab]", 2, ""}, {"(aa)", 1, ""}, {"[AA]", 1, ""},
		{"[(ab)(Ac)(bc)]", 3, ""}, {"([ab][Ac][bc])", 3, ""}, {"[aA1]", 1, ""}, {"(aA0)", 1, ""}, {"[(ab)(ac)(bc)]", 3, ""}, {"(abcde)", 5, ""}, {"[ABCDE]", 5, ""},
		{atLimit, 5, ""},
	} {
		want := flickersOfText(c.want)
		got, code := impl.FlickersOf(c.w, c.n)
		wantLists(t, fmt.Sprintf("FlickersOf(%q, %d)", c.w, c.n), got, code, want)
		safe, code := impl.IsSafe(c.w)
		wantBool(t, fmt.Sprintf("IsSafe(%q)", c.w), safe, code, len(want) == 0)
	}
	// The last input flickers in all rows in which it is 0.
	for w, kind := range map[string]int64{"[eE]": 0, "(eE)": 1} {
		var want [][]int64
		for row := range int64(16) {
			want = append(want, []int64{row, 4, kind})
		}
		got, code := impl.FlickersOf(w, 5)
		wantLists(t, fmt.Sprintf("FlickersOf(%q, 5)", w), got, code, want)
		safe, code := impl.IsSafe(w)
		wantBool(t, fmt.Sprintf("IsSafe(%q)", w), safe, code, false)
	}
}

// TestFlickersForInputs asks for as many inputs as the contacts need, for fewer and for more. The
// contact that counts is the greatest one, wherever it stands, of both kinds, and also where the value
// does not depend on it.
func TestFlickersForInputs(t *testing.T) {
	for i, letter := range []string{"a", "b", "c", "d", "e"} {
		for _, contact := range []string{letter, strings.ToUpper(letter)} {
			for _, w := range []string{contact, "(" + contact + "a)", "[A" + contact + "]", "(0" + contact + ")", "[a(b[1" + contact + "])]"} {
				for n := int64(-1); n <= 7; n++ {
					_, code := impl.FlickersOf(w, n)
					if (code == impl.ErrNone) != (n <= 5 && n >= max(int64(i)+1, inputsOfFormula(w))) {
						t.Errorf("FlickersOf(%q, %d): code %d", w, n, code)
					}
				}
			}
		}
	}
	for _, w := range []string{"0", "1", "(01)", "[00]", "(1[01])"} {
		for n := int64(1); n <= 5; n++ {
			got, code := impl.FlickersOf(w, n)
			wantLists(t, fmt.Sprintf("FlickersOf(%q, %d)", w, n), got, code, nil)
		}
	}
}

func TestFlickersErrors(t *testing.T) {
	for _, w := range []string{"0", "1", "a", "(bC)", "E", "[aA]", atLimit} {
		for _, n := range append([]int64{0}, farBeyond(5)...) {
			got, code := impl.FlickersOf(w, n)
			wantListsError(t, fmt.Sprintf("FlickersOf(%q, %d)", w, n), got, code, impl.ErrRange)
		}
	}
	for _, w := range noFormulas {
		for _, n := range append([]int64{0, 1, 5, 6}, farNumbers...) {
			got, code := impl.FlickersOf(w, n)
			wantListsError(t, fmt.Sprintf("FlickersOf(%q, %d)", w, n), got, code, impl.ErrSyntax)
		}
		safe, code := impl.IsSafe(w)
		wantBoolError(t, fmt.Sprintf("IsSafe(%q)", w), safe, code, impl.ErrSyntax)
	}
}

// allPatterns returns all patterns for n inputs, in order.
func allPatterns(n int64) []string {
	short := func(text string) bool { return int64(len(text)) < n }
	patterns := slices.DeleteFunc(shortTexts("-01", int(n)), short)
	slices.Sort(patterns)
	return patterns
}

// coveredWith returns the rows that a pattern covers: each sign `-` makes two of each row.
func coveredWith(pattern string) []int64 {
	rows := []int64{0}
	for i := range len(pattern) {
		var longer []int64
		for _, row := range rows {
			if pattern[i] != '1' {
				longer = append(longer, row)
			}
			if pattern[i] != '0' {
				longer = append(longer, row+1<<i)
			}
		}
		rows = longer
	}
	slices.Sort(rows)
	return rows
}

// badPatterns returns texts that are no patterns for n inputs: other lengths, and each other sign at
// each place.
func badPatterns(n int64) []string {
	texts := []string{"", "-\xff", "–", "？", strings.Repeat("-", 6), strings.Repeat("01", 1000), strings.Repeat("-", 64)}
	for length := int64(1); length <= 7; length++ {
		if length != n {
			texts = append(texts, strings.Repeat("-", int(length)), strings.Repeat("0", int(length)), strings.Repeat("1", int(length)))
		}
	}
	for _, whole := range []string{strings.Repeat("-", int(n)), strings.Repeat("01", 3)[:n]} {
		for at := range whole {
			for sign := range 256 {
				if strings.IndexByte("-01", byte(sign)) < 0 {
					texts = append(texts, whole[:at]+string([]byte{byte(sign)})+whole[at+1:])
				}
			}
		}
	}
	return slices.DeleteFunc(texts, func(text string) bool {
		return int64(len(text)) == n && strings.Trim(text, "-01") == ""
	})
}

func TestRowsCovered(t *testing.T) {
	for n := int64(1); n <= 5; n++ {
		for _, pattern := range allPatterns(n) {
			got, code := impl.RowsCovered(pattern)
			wantList(t, fmt.Sprintf("RowsCovered(%q)", pattern), got, code, coveredWith(pattern))
			if free := strings.Count(pattern, "-"); len(got) != 1<<free {
				t.Errorf("RowsCovered(%q) has %d rows, want %d", pattern, len(got), 1<<free)
			}
		}
	}
	for pattern, want := range map[string][]int64{
		"0": {0}, "1": {1}, "-": {0, 1}, "00": {0}, "10": {1}, "01": {2}, "11": {3}, "-0": {0, 1}, "-1": {2, 3}, "0-": {0, 2}, "1-": {1, 3}, "--": {0, 1, 2, 3},
		"1-0": {1, 3}, "0-1": {4, 6}, "-11": {6, 7}, "--1": {4, 5, 6, 7}, "101": {5}, "00000": {0}, "11111": {31}, "10000": {1}, "00001": {16}, "1111-": {15, 31}, "-1111": {30, 31}, "0-0-0": {0, 2, 8, 10}, "-----": rowsToLookAt(),
	} {
		got, code := impl.RowsCovered(pattern)
		wantList(t, fmt.Sprintf("RowsCovered(%q)", pattern), got, code, want)
	}
	for n := int64(1); n <= 5; n++ {
		for _, pattern := range badPatterns(n) {
			if len(pattern) >= 1 && len(pattern) <= 5 && strings.Trim(pattern, "-01") == "" {
				continue
			}
			got, code := impl.RowsCovered(pattern)
			wantListError(t, fmt.Sprintf("RowsCovered(%q)", pattern), got, code, impl.ErrRange)
		}
	}
}

// tablesOfPatterns returns tables with 1 in the rows of few patterns from a fixed sequence, so that
// many of them have safe formulas that are not too long.
func tablesOfPatterns() []impl.Table {
	var list []impl.Table
	source := rand.New(rand.NewSource(8))
	for n := int64(3); n <= 5; n++ {
		patterns := allPatterns(n)
		for count := range 9 {
			for range 25 {
				x := impl.Table{Inputs: n}
				for range count {
					for _, row := range coveredWith(patterns[source.Intn(len(patterns))]) {
						x.Values |= 1 << row
					}
				}
				list = append(list, x)
			}
		}
	}
	return list
}

// tablesWithPatterns returns tables of all numbers of inputs, parities among them, and such as have
// many prime patterns.
func tablesWithPatterns() []impl.Table {
	list := append(sampleTables(), tablesOfPatterns()...)
	source := rand.New(rand.NewSource(81))
	for range 100 {
		list = append(list, impl.Table{Inputs: 5, Values: (source.Int63() | source.Int63()) & (1<<32 - 1)})
	}
	for n := int64(1); n <= 5; n++ {
		for rest := range int64(2) {
			list = append(list, tableWith(n, func(row []int64) int64 { return (onesIn(row) + rest) % 2 }))
		}
	}
	return list
}

// isImpliedWith reports whether a table has 1 in all rows of a list.
func isImpliedWith(x impl.Table, rows []int64) bool {
	values := valuesOf(x)
	return !slices.ContainsFunc(rows, func(row int64) bool { return values[row] == 0 })
}

func TestIsImplied(t *testing.T) {
	kinds := map[string]int{}
	for _, x := range tablesWithPatterns() {
		for _, pattern := range allPatterns(x.Inputs) {
			want := isImpliedWith(x, coveredWith(pattern))
			got, code := impl.IsImplied(x, pattern)
			wantBool(t, fmt.Sprintf("IsImplied(%v, %q)", x, pattern), got, code, want)
			kinds[fmt.Sprintf("implied %v", want)]++
		}
	}
	wantKinds(t, kinds, "implied true", "implied false")
	for n := int64(1); n <= 5; n++ {
		for _, pattern := range allPatterns(n) {
			no, code := impl.IsImplied(impl.Table{Inputs: n}, pattern)
			wantBool(t, fmt.Sprintf("IsImplied of 0 and %q", pattern), no, code, false)
			yes, code := impl.IsImplied(impl.Table{Inputs: n, Values: 1<<(1<<n) - 1}, pattern)
			wantBool(t, fmt.Sprintf("IsImplied of 1 and %q", pattern), yes, code, true)
		}
	}
	for _, c := range []struct {
		text, pattern string
		want          bool
	}{
		{"1:01", "1", true}, {"1:01", "0", false}, {"1:01", "-", false}, {"2:0111", "1-", true}, {"2:0111", "-1", true}, {"2:0111", "11", true}, {"2:0111", "--", false}, {"2:0111", "0-", false}, {"2:0100", "10", true}, {"2:0100", "01", false},
		{"3:00011011", "-11", true}, {"3:00011011", "0-1", true}, {"3:00011011", "1-1", false}, {"3:00011011", "011", true}, {"3:00011011", "--1", false},
	} {
		got, code := impl.IsImplied(tableOfText(c.text), c.pattern)
		wantBool(t, fmt.Sprintf("IsImplied of %s and %q", c.text, c.pattern), got, code, c.want)
	}
}

func TestIsImpliedErrors(t *testing.T) {
	for n := int64(1); n <= 5; n++ {
		for _, values := range []int64{0, 1, 1<<(1<<n) - 1} {
			x := impl.Table{Inputs: n, Values: values}
			for _, pattern := range badPatterns(n) {
				got, code := impl.IsImplied(x, pattern)
				wantBoolError(t, fmt.Sprintf("IsImplied(%v, %q)", x, pattern), got, code, impl.ErrRange)
			}
		}
	}
	for _, x := range noTables {
		for _, pattern := range []string{"", "-", "1", "--", "00000", "-----", "------", "?", "x", strings.Repeat("1", 64)} {
			got, code := impl.IsImplied(x, pattern)
			wantBoolError(t, fmt.Sprintf("IsImplied(%v, %q)", x, pattern), got, code, impl.ErrInvalid)
		}
	}
}

// primesWith returns the prime patterns of a table, in order: those implied by it of which no other
// implied one covers all rows. A set of rows is the number with the digits 1 at their places.
func primesWith(x impl.Table) []string {
	covered := map[string]int64{}
	for _, pattern := range allPatterns(x.Inputs) {
		if rows := coveredWith(pattern); isImpliedWith(x, rows) {
			covered[pattern] = numberOfSet(rows)
		}
	}
	var primes []string
	for pattern, rows := range covered {
		prime := true
		for other, more := range covered {
			prime = prime && (other == pattern || rows&^more != 0)
		}
		if prime {
			primes = append(primes, pattern)
		}
	}
	slices.Sort(primes)
	return primes
}

// neededWith returns those of the prime patterns of a table without which the others do not cover all
// rows with 1.
func neededWith(primes []string) []string {
	var needed []string
	for _, pattern := range primes {
		left := coveredWith(pattern)
		for _, other := range primes {
			if other != pattern {
				others := coveredWith(other)
				left = slices.DeleteFunc(left, func(row int64) bool { return slices.Contains(others, row) })
			}
		}
		if len(left) > 0 {
			needed = append(needed, pattern)
		}
	}
	return needed
}

// safeFormulaWith returns the safe formula of a table with these prime patterns, however long it is.
func safeFormulaWith(primes []string) string {
	if len(primes) == 0 {
		return "0"
	}
	var members []string
	for _, pattern := range primes {
		contacts := ""
		for i, sign := range pattern {
			contacts += map[rune]string{'-': "", '0': "ABCDE"[i : i+1], '1': "abcde"[i : i+1]}[sign]
		}
		switch len(contacts) {
		case 0:
			return "1"
		case 1:
			members = append(members, contacts)
		default:
			members = append(members, "("+contacts+")")
		}
	}
	if len(members) == 1 {
		return members[0]
	}
	return "[" + strings.Join(members, "") + "]"
}

// wantPatterns fails unless patterns and a code are as wanted.
func wantPatterns(t *testing.T, call string, got []string, code int64, want []string) {
	t.Helper()
	if !slices.Equal(got, want) || code != impl.ErrNone {
		t.Errorf("%s = %q, %d, want %q, 0", call, got, code, want)
	}
}

// wantText fails unless a text and a code are as wanted.
func wantText(t *testing.T, call string, got string, code int64, want string) {
	t.Helper()
	if got != want || code != impl.ErrNone {
		t.Errorf("%s = %q, %d, want %q, 0", call, got, code, want)
	}
}

func TestPatternsOfTables(t *testing.T) {
	kinds := map[string]int{}
	for _, x := range tablesWithPatterns() {
		primes := primesWith(x)
		got, code := impl.PrimePatterns(x)
		wantPatterns(t, fmt.Sprintf("PrimePatterns(%v)", x), got, code, primes)
		needed := neededWith(primes)
		got, code = impl.NeededPatterns(x)
		wantPatterns(t, fmt.Sprintf("NeededPatterns(%v)", x), got, code, needed)
		switch len(needed) {
		case len(primes):
			kinds["all are needed"]++
		case 0:
			kinds["none is needed"]++
		default:
			kinds["some are needed"]++
		}
		wantSafeFormula(t, kinds, x, safeFormulaWith(primes))
	}
	wantKinds(t, kinds, "all are needed", "some are needed", "too long", "short enough")
	if kinds["none is needed"] < 2 || kinds["as long as can be"] == 0 || kinds["too long by a byte"] == 0 {
		t.Errorf("too few samples: %v", kinds)
	}
}

// wantSafeFormula fails unless the safe formula of a table is a text, or ErrLimit if that is too long.
func wantSafeFormula(t *testing.T, kinds map[string]int, x impl.Table, want string) {
	t.Helper()
	got, code := impl.SafeFormula(x)
	if len(want) == 80 {
		kinds["as long as can be"]++
	}
	if len(want) == 81 {
		kinds["too long by a byte"]++
	}
	if len(want) > 80 {
		kinds["too long"]++
		if got != "" || code != impl.ErrLimit {
			t.Errorf("SafeFormula(%v) = %q, %d, want ErrLimit", x, got, code)
		}
		return
	}
	kinds["short enough"]++
	wantText(t, fmt.Sprintf("SafeFormula(%v)", x), got, code, want)
}

func TestPatternsByHand(t *testing.T) {
	for _, c := range []struct{ text, primes, needed, safe string }{
		{"1:00", "", "", "0"}, {"1:11", "-", "-", "1"}, {"1:01", "1", "1", "a"}, {"1:10", "0", "0", "A"},
		{"2:0000", "", "", "0"}, {"2:1111", "--", "--", "1"}, {"3:11111111", "---", "---", "1"},
		{"2:0101", "1-", "1-", "a"}, {"2:0011", "-1", "-1", "b"}, {"2:1100", "-0", "-0", "B"}, {"2:1010", "0-", "0-", "A"},
		{"2:0001", "11", "11", "(ab)"}, {"2:1000", "00", "00", "(AB)"}, {"2:0100", "10", "10", "(aB)"}, {"2:0010", "01", "01", "(Ab)"},
		{"2:0111", "-1 1-", "-1 1-", "[ba]"}, {"2:1110", "-0 0-", "-0 0-", "[BA]"}, {"2:1101", "-0 1-", "-0 1-", "[Ba]"},
		{"2:0110", "01 10", "01 10", "[(Ab)(aB)]"}, {"2:1001", "00 11", "00 11", "[(AB)(ab)]"},
		// A parity, one row, several patterns with one contact among them.
		{"3:01101001", "001 010 100 111", "001 010 100 111", "[(ABc)(AbC)(aBC)(abc)]"},
		{"3:00000100", "101", "101", "(aBc)"}, {"3:10000000", "000", "000", "(ABC)"},
		{"3:01010111", "-11 1--", "-11 1--", "[(bc)a]"}, {"3:11111110", "--0 -0- 0--", "--0 -0- 0--", "[CBA]"},
		// All prime patterns are needed, one is not, none is.
		{"3:00010111", "-11 1-1 11-", "-11 1-1 11-", "[(bc)(ac)(ab)]"},
		{"3:00011011", "-11 0-1 11-", "0-1 11-", "[(bc)(Ac)(ab)]"},
		{"3:01111110", "-01 -10 0-1 01- 1-0 10-", "", "[(Bc)(bC)(Ac)(Ab)(aC)(aB)]"},
		// Four and five inputs.
		{"4:0000000011111111", "---1", "---1", "d"}, {"4:0000000000000001", "1111", "1111", "(abcd)"},
		{"4:1000100010001111", "--11 00--", "--11 00--", "[(cd)(AB)]"},
		{"5:" + strings.Repeat("1", 16) + strings.Repeat("0", 16), "----0", "----0", "E"},
		{"5:" + strings.Repeat("0", 31) + "1", "11111", "11111", "(abcde)"}, {"5:1" + strings.Repeat("0", 31), "00000", "00000", "(ABCDE)"},
		{"5:" + strings.Repeat("1", 32), "-----", "-----", "1"}, {"5:" + strings.Repeat("0", 32), "", "", "0"},
		{"5:0" + strings.Repeat("1", 31), "----1 ---1- --1-- -1--- 1----", "----1 ---1- --1-- -1--- 1----", "[edcba]"},
	} {
		x := tableOfText(c.text)
		primes, code := impl.PrimePatterns(x)
		wantPatterns(t, "PrimePatterns of "+c.text, primes, code, strings.Fields(c.primes))
		needed, code := impl.NeededPatterns(x)
		wantPatterns(t, "NeededPatterns of "+c.text, needed, code, strings.Fields(c.needed))
		safe, code := impl.SafeFormula(x)
		wantText(t, "SafeFormula of "+c.text, safe, code, c.safe)
	}
	// The parity of five inputs has 16 patterns of five contacts each: 114 bytes.
	x := tableWith(5, func(row []int64) int64 { return onesIn(row) % 2 })
	if safe, code := impl.SafeFormula(x); safe != "" || code != impl.ErrLimit {
		t.Errorf("SafeFormula of a parity = %q, %d, want ErrLimit", safe, code)
	}
	if primes, code := impl.PrimePatterns(x); len(primes) != 16 || code != impl.ErrNone {
		t.Errorf("PrimePatterns of a parity = %q, %d", primes, code)
	}
}

func TestPatternsErrors(t *testing.T) {
	for _, x := range noTables {
		if got, code := impl.PrimePatterns(x); len(got) != 0 || code != impl.ErrInvalid {
			t.Errorf("PrimePatterns(%v) = %q, %d, want no patterns, ErrInvalid", x, got, code)
		}
		if got, code := impl.NeededPatterns(x); len(got) != 0 || code != impl.ErrInvalid {
			t.Errorf("NeededPatterns(%v) = %q, %d, want no patterns, ErrInvalid", x, got, code)
		}
		if got, code := impl.SafeFormula(x); got != "" || code != impl.ErrInvalid {
			t.Errorf("SafeFormula(%v) = %q, %d, want no text, ErrInvalid", x, got, code)
		}
	}
}

// doubtWith returns the value with doubts of a formula: in series it is the least one of the members,
// and in parallel the greatest one, where 2 stands between 0 and 1.
func doubtWith(w string, signs string) int64 {
	rank := func(value int64) int64 { return [3]int64{0, 2, 1}[value] }
	byRank := func(value int64, other int64) int { return int(rank(value) - rank(other)) }
	var values []int64
	switch w[0] {
	case '(', '[':
		for _, member := range membersWith(w) {
			values = append(values, doubtWith(member, signs))
		}
		if w[0] == '(' {
			return slices.MinFunc(values, byRank)
		}
		return slices.MaxFunc(values, byRank)
	case '0', '1':
		return int64(w[0] - '0')
	}
	place := strings.IndexByte("aAbBcCdDeE", w[0])
	if signs[place/2] == '?' {
		return 2
	}
	return int64(signs[place/2]-'0') ^ int64(place%2)
}

// settingsWith returns the value with doubts of a formula by setting each of its contacts that are
// told by `?` for itself, in all ways, and how many such contacts there are. It returns -1 if they are
// more than a few.
func settingsWith(w string, signs string) (int64, int) {
	text := []byte(w)
	var doubtful []int
	for at, sign := range text {
		place := strings.IndexByte("aAbBcCdDeE", sign)
		switch {
		case place < 0:
		case signs[place/2] == '?':
			doubtful = append(doubtful, at)
		default:
			text[at] = "01"[int(signs[place/2]-'0')^place%2]
		}
	}
	if len(doubtful) > 7 {
		return -1, len(doubtful)
	}
	met := [2]bool{}
	for setting := range int64(1) << len(doubtful) {
		for i, digit := range digitsOf(setting, int64(len(doubtful))) {
			text[doubtful[i]] = byte('0' + digit)
		}
		met[onesWith(string(text), nil)&1] = true
	}
	if met[0] && met[1] {
		return 2, len(doubtful)
	}
	if met[1] {
		return 1, len(doubtful)
	}
	return 0, len(doubtful)
}

// allSigns returns all texts of five signs `0`, `1` and `?`.
func allSigns() []string {
	return slices.DeleteFunc(shortTexts("01?", 5), func(text string) bool { return len(text) < 5 })
}

func TestValueWithDoubts(t *testing.T) {
	kinds := map[string]int{}
	signs := allSigns()
	for at, w := range formulasWithMoments() {
		for from := at % 9; from < len(signs); from += 9 {
			text := signs[from]
			want := doubtWith(w, text)
			got, code := impl.ValueWithDoubts(w, text)
			call := fmt.Sprintf("ValueWithDoubts(%q, %q)", w, text)
			wantNumber(t, call, got, code, want)
			value, doubtful := settingsWith(w, text)
			if value >= 0 && value != want {
				t.Errorf("%s: %d is wanted, but all settings come to %d", call, want, value)
			}
			if doubtful > 0 {
				kinds[fmt.Sprintf("doubtful, %d", want)]++
			} else {
				kinds[fmt.Sprintf("without doubts, %d", want)]++
			}
		}
		got, code := impl.ValueWithDoubts(w, "?????")
		wantNumber(t, fmt.Sprintf("ValueWithDoubts(%q, all in doubt)", w), got, code, doubtWith(w, "?????"))
	}
	wantKinds(t, kinds, "doubtful, 0", "doubtful, 1", "doubtful, 2", "without doubts, 0", "without doubts, 1")
	if kinds["without doubts, 2"] != 0 {
		t.Errorf("values are not known though no contact is in doubt: %v", kinds)
	}
}

// TestValuesWithoutDoubts asks with no sign `?`, where the value is that in a row.
func TestValuesWithoutDoubts(t *testing.T) {
	for _, w := range append(slices.Clone(formulasByHand), flickeringByHand...) {
		for row := range int64(32) {
			signs := ""
			for _, digit := range digitsOf(row, 5) {
				signs += fmt.Sprint(digit)
			}
			got, code := impl.ValueWithDoubts(w, signs)
			wantNumber(t, fmt.Sprintf("ValueWithDoubts(%q, %q)", w, signs), got, code, valueWith(w, row))
		}
	}
}

func TestValueWithDoubtsByHand(t *testing.T) {
	for _, c := range []struct {
		w, signs string
		want     int64
	}{
		{"0", "00000", 0}, {"1", "00000", 1}, {"0", "?????", 0}, {"1", "?????", 1},
		{"a", "00000", 0}, {"a", "10000", 1}, {"A", "00000", 1}, {"A", "10000", 0}, {"e", "00001", 1}, {"e", "11110", 0}, {"E", "11110", 1}, {"E", "00001", 0},
		{"a", "?0000", 2}, {"A", "?0000", 2}, {"e", "0000?", 2}, {"E", "1111?", 2}, {"a", "?????", 2},
		// An input that no contact has is in doubt.
		{"a", "0????", 0}, {"a", "1????", 1}, {"A", "0????", 1}, {"e", "????0", 0}, {"e", "????1", 1}, {"(ab)", "11???", 1}, {"[ab]", "00???", 0},
		// Contacts of one input are set each for itself.
		{"(aA)", "?0000", 2}, {"[aA]", "?0000", 2}, {"(aa)", "?0000", 2}, {"[AA]", "?1111", 2}, {"(a[Ab])", "?0000", 2}, {"[a(Ab)]", "?1000", 2}, {"([aA][bB])", "?????", 2}, {"[(aB)(Ab)]", "??000", 2},
		{"[aA]", "0????", 1}, {"(aA)", "1????", 0},
		// The value is the same though an input is in doubt.
		{"(ab)", "?0000", 0}, {"(ab)", "0?000", 0}, {"(ab)", "?1000", 2}, {"[ab]", "?1000", 1}, {"[ab]", "1?000", 1}, {"[ab]", "?0000", 2}, {"(aA0)", "?????", 0}, {"[aA1]", "?????", 1}, {"[b(aA)]", "?1000", 1}, {"(b[aA])", "?0000", 0},
		{"[(ab)(Ac)]", "?1100", 2}, {"[(ab)(Ac)]", "?0000", 0}, {"[(ab)(Ac)(bc)]", "?1100", 1}, {"([ab][Ac])", "?0000", 2}, {"([ab][Ac][bc])", "?0000", 0}, {"([ab][Ac])", "?1100", 1},
		{"(abcde)", "1111?", 2}, {"(abcde)", "0????", 0}, {"[abcde]", "????1", 1}, {"[ABCDE]", "???0?", 1}, {"[ABCDE]", "11111", 0}, {"[ABCDE]", "1?111", 2},
	} {
		got, code := impl.ValueWithDoubts(c.w, c.signs)
		wantNumber(t, fmt.Sprintf("ValueWithDoubts(%q, %q)", c.w, c.signs), got, code, c.want)
	}
}

func TestValueWithDoubtsErrors(t *testing.T) {
	texts := []string{"", "0", "?", "0000", "????", "1111", "000000", "??????", "111110", "-----", "0000-", strings.Repeat("0", 32), strings.Repeat("?", 1000), "？0", "00？", "??–"}
	for _, whole := range []string{"00000", "?1?0?"} {
		for at := range whole {
			for sign := range 256 {
				if strings.IndexByte("01?", byte(sign)) < 0 {
					texts = append(texts, whole[:at]+string([]byte{byte(sign)})+whole[at+1:])
				}
			}
		}
	}
	for _, signs := range texts {
		for _, w := range []string{"0", "1", "a", "E", "[aA]", atLimit} {
			if got, code := impl.ValueWithDoubts(w, signs); got != 0 || code != impl.ErrRange {
				t.Errorf("ValueWithDoubts(%q, %q) = %d, %d, want 0, ErrRange", w, signs, got, code)
			}
		}
	}
	for _, w := range noFormulas {
		for _, signs := range []string{"00000", "?????", "", "0000", "000000", "-----", "abcde"} {
			if got, code := impl.ValueWithDoubts(w, signs); got != 0 || code != impl.ErrSyntax {
				t.Errorf("ValueWithDoubts(%q, %q) = %d, %d, want 0, ErrSyntax", w, signs, got, code)
			}
		}
	}
}

// TestMomentResultsAreNew writes on results, and looks at what else is there, and asks again.
func TestMomentResultsAreNew(t *testing.T) {
	for _, w := range []string{"[(ab)(Ac)]", "([aA][bB])", "[(aA)(bB)(cC)]"} {
		first, _ := impl.FlickersOf(w, 4)
		want := copyOfLists(first)
		wantApart(t, fmt.Sprintf("FlickersOf(%q, 4)", w), first)
		for i := range first {
			scribble(first[i])
			first[i] = nil
		}
		again, code := impl.FlickersOf(w, 4)
		wantLists(t, fmt.Sprintf("FlickersOf(%q, 4) once more", w), again, code, want)
	}
	for _, pattern := range []string{"-", "1-0", "-----", "01101"} {
		first, _ := impl.RowsCovered(pattern)
		want := slices.Clone(first)
		scribble(first)
		again, code := impl.RowsCovered(pattern)
		wantList(t, fmt.Sprintf("RowsCovered(%q) once more", pattern), again, code, want)
	}
	for name, run := range map[string]func(x impl.Table) ([]string, int64){"PrimePatterns": impl.PrimePatterns, "NeededPatterns": impl.NeededPatterns} {
		for _, text := range []string{"2:0111", "3:00011011", "3:01101001", "3:11111111"} {
			first, _ := run(tableOfText(text))
			want := slices.Clone(first)
			first = first[:cap(first)]
			for i := range first {
				first[i] = "written"
			}
			again, code := run(tableOfText(text))
			wantPatterns(t, name+" of "+text+" once more", again, code, want)
		}
	}
}

// TestPromise8 checks the eighth promise by the functions of the chapters alone.
func TestPromise8(t *testing.T) {
	kinds := map[string]int{}
	for _, x := range tablesWithPatterns() {
		if w, code := impl.SafeFormula(x); code == impl.ErrNone {
			safe, code := impl.IsSafe(w)
			wantBool(t, fmt.Sprintf("IsSafe(%q), of %v", w, x), safe, code, true)
			flickers, code := impl.FlickersOf(w, x.Inputs)
			wantLists(t, fmt.Sprintf("FlickersOf(%q, %d), of %v", w, x.Inputs, x), flickers, code, nil)
			y, code := impl.TableOfFormula(w, x.Inputs)
			wantTable(t, fmt.Sprintf("the table of SafeFormula(%v) = %q", x, w), y, code, x)
			kinds["safe formulas"]++
		} else if code != impl.ErrLimit {
			t.Errorf("SafeFormula(%v): code %d", x, code)
		}
		primes, code := impl.PrimePatterns(x)
		if code != impl.ErrNone {
			t.Errorf("PrimePatterns(%v): code %d", x, code)
		}
		covered := map[int64]bool{}
		for _, pattern := range primes {
			implied, code := impl.IsImplied(x, pattern)
			wantBool(t, fmt.Sprintf("IsImplied(%v, %q), a prime pattern", x, pattern), implied, code, true)
			rows, _ := impl.RowsCovered(pattern)
			for _, row := range rows {
				covered[row] = true
			}
		}
		ones, _ := impl.OnesOf(x)
		for row := range int64(1) << x.Inputs {
			if covered[row] != slices.Contains(ones, row) {
				t.Errorf("%v: the row %d is covered by a prime pattern: %v", x, row, covered[row])
			}
		}
		kinds[fmt.Sprintf("%d inputs", x.Inputs)]++
	}
	wantKinds(t, kinds, "safe formulas", "3 inputs", "4 inputs", "5 inputs")
}

// TestMomentsBetweenRows checks that values in gaps are at most, and those in bridges at least, those
// in both rows, and that what flickers is told by these four values.
func TestMomentsBetweenRows(t *testing.T) {
	for at, w := range formulasWithMoments() {
		if at%3 != 0 {
			continue
		}
		flickers, _ := impl.FlickersOf(w, 5)
		found := 0
		for row := range int64(32) {
			for input := range int64(5) {
				if digitsOf(row, 5)[input] == 1 {
					continue
				}
				value, _ := impl.FormulaValue(w, row)
				other, _ := impl.FormulaValue(w, row+1<<input)
				gap, _ := impl.ValueInGap(w, row, input)
				bridge, _ := impl.ValueInBridge(w, row, input)
				if gap > min(value, other) || bridge < max(value, other) {
					t.Errorf("%q in the rows of %d and the input %d: %d, %d in the gap, %d in the bridge, %d", w, row, input, value, gap, bridge, other)
				}
				if value == other && gap != bridge {
					found++
					want := []int64{row, input, 1 - value}
					if !slices.ContainsFunc(flickers, func(flicker []int64) bool { return slices.Equal(flicker, want) }) {
						t.Errorf("FlickersOf(%q, 5) lacks %v", w, want)
					}
				}
			}
		}
		if found != len(flickers) {
			t.Errorf("FlickersOf(%q, 5) has %d flickers, want %d", w, len(flickers), found)
		}
	}
}
