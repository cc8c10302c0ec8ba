package tests

import (
	"fmt"
	"math/rand"
	"regexp"
	"slices"
	"strings"
	"testing"

	"loop.example/g01392/impl"
)

// Formulas are looked at here as texts: what is innermost is found by a pattern and replaced.
var (
	singleSign    = regexp.MustCompile(`[a-eA-E01]`)
	innerBrackets = regexp.MustCompile(`\(xx+\)|\[xx+\]`)
	innerSeries   = regexp.MustCompile(`\([01]+\)`)
	innerParallel = regexp.MustCompile(`\[[01]+\]`)
	otherSigns    = regexp.MustCompile(`[^a-eA-E01()\[\]]`)
)

// isFormulaWith reports whether a text is a formula: brackets with two members and more become a
// single sign, until there are none.
func isFormulaWith(w string) bool {
	if len(w) > 80 || otherSigns.MatchString(w) {
		return false
	}
	w = singleSign.ReplaceAllString(w, "x")
	for innerBrackets.MatchString(w) {
		w = innerBrackets.ReplaceAllString(w, "x")
	}
	return w == "x"
}

// valueWith returns the value of a formula in a row: contacts become their values, and brackets
// theirs, until there are none.
func valueWith(w string, row int64) int64 {
	digits := digitsOf(row, 5)
	w = singleSign.ReplaceAllStringFunc(w, func(sign string) string {
		if i := strings.Index("abcde", sign); i >= 0 {
			return fmt.Sprint(digits[i])
		}
		if i := strings.Index("ABCDE", sign); i >= 0 {
			return fmt.Sprint(1 - digits[i])
		}
		return sign
	})
	for len(w) > 1 {
		before := w
		w = innerSeries.ReplaceAllStringFunc(w, func(members string) string {
			if strings.Contains(members, "0") {
				return "0"
			}
			return "1"
		})
		w = innerParallel.ReplaceAllStringFunc(w, func(members string) string {
			if strings.Contains(members, "1") {
				return "1"
			}
			return "0"
		})
		if w == before {
			panic("no formula is left: " + w)
		}
	}
	return int64(w[0] - '0')
}

// tableOfFormulaWith returns the table of a formula for n inputs.
func tableOfFormulaWith(w string, n int64) impl.Table {
	return tableWith(n, func(row []int64) int64 { return valueWith(w, numberOf(row)) })
}

// inputsOfFormula returns the least number of inputs that is more than all inputs of contacts.
func inputsOfFormula(w string) int64 {
	n := int64(1)
	for i, letter := range []string{"a", "b", "c", "d", "e"} {
		if strings.Contains(strings.ToLower(w), letter) {
			n = int64(i) + 1
		}
	}
	return n
}

// membersWith returns the members of a formula that is in brackets.
func membersWith(w string) []string {
	var members []string
	depth, from := 0, 1
	for at := 1; at < len(w)-1; at++ {
		switch w[at] {
		case '(', '[':
			depth++
		case ')', ']':
			depth--
		}
		if depth == 0 {
			members = append(members, w[from:at+1])
			from = at + 1
		}
	}
	return members
}

// shortWith returns the short formula of a text that is a formula, but may be longer, and may have
// one member or none in brackets. It makes one change after the other in the list of members.
func shortWith(w string) string {
	if len(w) == 1 {
		return w
	}
	bracket, absorbing, empty := w[0], "0", "1"
	if bracket == '[' {
		absorbing, empty = "1", "0"
	}
	var members []string
	for _, member := range membersWith(w) {
		member = shortWith(member)
		if member[0] == bracket {
			members = append(members, membersWith(member)...)
		} else {
			members = append(members, member)
		}
	}
	if slices.Contains(members, absorbing) {
		return absorbing
	}
	members = slices.DeleteFunc(members, func(member string) bool { return member == empty })
	for at := len(members) - 1; at >= 0; at-- {
		if slices.Index(members, members[at]) < at {
			members = slices.Delete(members, at, at+1)
		}
	}
	switch len(members) {
	case 0:
		return empty
	case 1:
		return members[0]
	}
	return string(bracket) + strings.Join(members, "") + w[len(w)-1:]
}

// choiceWalk goes through a formula from left to right, and chooses a member of each formula in
// parallel that it meets: that which the next one of given choices tells, and the first one behind
// them.
type choiceWalk struct {
	given    []int
	chosen   []int
	counts   []int
	contacts string
}

func (walk *choiceWalk) through(w string) {
	switch w[0] {
	case '(':
		for _, member := range membersWith(w) {
			walk.through(member)
		}
	case '[':
		members := membersWith(w)
		choice := 0
		if len(walk.chosen) < len(walk.given) {
			choice = walk.given[len(walk.chosen)]
		}
		walk.chosen = append(walk.chosen, choice)
		walk.counts = append(walk.counts, len(members))
		walk.through(members[choice])
	default:
		walk.contacts += w
	}
}

// waysWith returns the contacts that are left by each way to choose members in a short formula, in
// order, but no more than 201 of them.
func waysWith(w string) []string {
	var ways []string
	var given []int
	for len(ways) <= 200 {
		walk := choiceWalk{given: given}
		walk.through(w)
		ways = append(ways, walk.contacts)
		last := len(walk.chosen) - 1
		for last >= 0 && walk.chosen[last]+1 == walk.counts[last] {
			last--
		}
		if last < 0 {
			break
		}
		given = append(slices.Clone(walk.chosen[:last]), walk.chosen[last]+1)
	}
	return ways
}

// expandedWith returns the expanded formula of a formula, and ErrNone, or ErrLimit.
func expandedWith(w string) (string, int64) {
	ways := waysWith(shortWith(w))
	if len(ways) > 200 {
		return "", impl.ErrLimit
	}
	all := "["
	for _, way := range ways {
		both := false
		for i := range 5 {
			both = both || strings.Contains(way, "abcde"[i:i+1]) && strings.Contains(way, "ABCDE"[i:i+1])
		}
		if !both {
			all += "(" + way + ")"
		}
	}
	short := shortWith(all + "]")
	if len(short) > 80 {
		return "", impl.ErrLimit
	}
	return short, impl.ErrNone
}

// networkOfFormulaWith returns the network of a formula, however great it is. It puts the formula
// itself between the ends, and takes its brackets away one after the other, those in front first.
func networkOfFormulaWith(w string) impl.Network {
	type piece struct {
		w    string
		p, q int64
	}
	points := int64(2)
	var contacts [][]int64
	pieces := []piece{{w, 0, 1}}
	for len(pieces) > 0 {
		now := pieces[0]
		pieces = pieces[1:]
		var inside []piece
		switch now.w[0] {
		case '(':
			members := membersWith(now.w)
			from := now.p
			for range len(members) - 1 {
				inside = append(inside, piece{members[len(inside)], from, points})
				from = points
				points++
			}
			inside = append(inside, piece{members[len(inside)], from, now.q})
		case '[':
			for _, member := range membersWith(now.w) {
				inside = append(inside, piece{member, now.p, now.q})
			}
		case '0':
		default:
			place := int64(strings.Index("aAbBcCdDeE", now.w))
			contacts = append(contacts, []int64{min(now.p, now.q), max(now.p, now.q), place / 2, place % 2})
		}
		pieces = append(inside, pieces...)
	}
	return sortedNetwork(points, contacts)
}

// shortTexts returns all texts of at most so many bytes with some signs.
func shortTexts(signs string, length int) []string {
	texts := []string{""}
	for from := 0; len(texts[from]) < length; from++ {
		for i := range len(signs) {
			texts = append(texts, texts[from]+signs[i:i+1])
		}
	}
	return texts
}

// formulasOfLength returns all formulas of 1, 2, .. bytes with some signs, up to a length.
func formulasOfLength(signs string, length int) [][]string {
	formulas := [][]string{nil, strings.Split(signs, "")}
	// The texts of formulas one after the other, by how many bytes they have.
	rows := [][]string{{""}}
	for have := 2; have <= length; have++ {
		var row []string
		for first := 1; first < have; first++ {
			for _, w := range formulas[first] {
				for _, others := range rows[have-1-first] {
					row = append(row, w+others)
				}
			}
		}
		rows = append(rows, row)
		var found []string
		for first := 1; first <= have-3; first++ {
			for _, w := range formulas[first] {
				for _, others := range rows[have-2-first] {
					found = append(found, "("+w+others+")", "["+w+others+"]")
				}
			}
		}
		formulas = append(formulas, found)
	}
	return formulas
}

// smallFormulas returns all formulas of few bytes with some signs.
func smallFormulas() []string {
	var list []string
	for signs, length := range map[string]int{"aA01": 7, "ab": 10, "b0": 9, "A1": 9} {
		list = append(list, slices.Concat(formulasOfLength(signs, length)...)...)
	}
	slices.Sort(list)
	return slices.Compact(list)
}

// formulaFrom returns a formula of at most so many bytes from a sequence, with some signs.
func formulaFrom(source *rand.Rand, signs string, room int) string {
	if room < 4 || source.Intn(4) == 0 {
		place := source.Intn(len(signs))
		return signs[place : place+1]
	}
	kind := source.Intn(2)
	members := ""
	for others := min(1+source.Intn(4), room-3); others >= 0; others-- {
		// The members that follow have at least one byte each.
		left := room - 2 - len(members) - others
		members += formulaFrom(source, signs, min(left, 1+room*2/3))
	}
	return "(["[kind:kind+1] + members + ")]"[kind:kind+1]
}

// sampleFormulas returns formulas of all lengths from a fixed sequence, with all signs, with few of
// them, so that members are often equal, and without the signs 0 and 1.
func sampleFormulas() []string {
	source := rand.New(rand.NewSource(4))
	list := slices.Clone(formulasByHand)
	for _, signs := range []string{"abcdeABCDE01", "aAbB01", "abcdeABCDEabcdeABCDE0", "abc", "abcdeABCDE", "aAbBcC"} {
		for room := 4; room <= 80; room += 2 {
			for range 6 {
				list = append(list, formulaFrom(source, signs, room))
			}
		}
	}
	return list
}

// formulasByHand are formulas with what the document names.
var formulasByHand = []string{
	"0", "1", "a", "b", "c", "d", "e", "A", "B", "C", "D", "E",
	"(ab)", "[ab]", "(aA)", "[aA]", "(aa)", "[aa]", "(00)", "(01)", "(10)", "(11)", "[00]", "[01]", "[10]", "[11]", "(a0)", "(a1)", "[a0]", "[a1]",
	"(abcdeABCDE)", "[abcdeABCDE]", "[abcde]", "(ABCDE)", "[aB]", "(a[Bc])", "(a[B0])", "([a(1b)]a(bb))", "([aB][Ac])",
	"((ab)c)", "(a(bc))", "((ab)(cd))", "[[ab]c]", "[a[bc]]", "[[ab][cd]]", "(((ab)c)d)", "[a[b[c[de]]]]", "((((((ab)a)b)a)b)a)",
	"([(a[b(cd)])e]A)", "[([(ab)c]d)e]", "([(ab)(cd)][(Ab)(Cd)]e)", "[(a[(b[cd])(B[CD])])([AB]E)]",
	atLimit, "[" + atLimit[1:79] + "]", nestedAtLimit,
}

// Formulas of 80 bytes: one with many members, and one with many brackets within each other.
var (
	atLimit       = "(" + strings.Repeat("aBcDeAbCdEeeee", 6)[:78] + ")"
	nestedAtLimit = strings.Repeat("(a[b", 12) + "(aBcDeA)" + strings.Repeat("])", 12)
)

// noFormulas are texts that are no formulas.
var noFormulas = []string{
	"", "()", "[]", "(a)", "[a]", "(0)", "[1]", "((ab))", "[(ab)]", "([ab])", "[[ab]]", "(()a)", "([]ab)", "(a[])", "[a()]",
	"(", "[", ")", "]", "(ab", "[ab", "ab)", "ab]", "(ab]", "[ab)", "([ab)]", "[(ab])", "((ab)", "(ab))", "(ab)]", "[ab])", "((ab)(cd)", "(a(b)", "((ab)c", "([ab]", ")ab(", "]ab[", "(ab(", ")(", "()ab",
	"ab", "aA", "01", "00", "a(bc)", "(ab)c", "(ab)(cd)", "[ab][cd]", "(ab)[cd]", "0a", "a1", "abcde",
	"f", "F", "z", "Z", "g", "o", "I", "(af)", "(fa)", "[aF]", "[Fa]", "@", "`", "(a@)", "(a`)", "(a\\)", "[a^]", "(a_)", "2", "9", "(a2)", "/", ":", "(a/)", "-", "+", "*", "{ab}", "<ab>", "a'", "!a",
	" ", " a", "a ", "(a b)", "( ab)", "(ab )", "(a,b)", "a\n", "(ab)\n", "\n", "\t", "\x00", "(a\x00)", "\x00a", "\xff", "(a\xff)", "\xe1", "(a\xc1)", "á", "(aá)", "ａ", "(ａｂ)", "（ab）", "а", "α",
	atLimit[:79] + "a)", atLimit + "a", atLimit + ")", atLimit + " ", atLimit[:79], nestedAtLimit + "0", "[" + nestedAtLimit + "0]",
	strings.Repeat("(", 79), strings.Repeat("[", 5000), strings.Repeat("a", 80), strings.Repeat("(a", 40), strings.Repeat(")", 80), "(" + strings.Repeat("a", 79) + ")", "(" + strings.Repeat("a", 100000) + ")", strings.Repeat("(a", 27) + "a" + strings.Repeat(")", 27),
}

func TestFormulaLimits(t *testing.T) {
	var asByte byte = impl.MaxFormula
	var asFloat float64 = impl.MaxSmall
	if asByte != 80 || asFloat != 3 {
		t.Errorf("MaxFormula %d, MaxSmall %v", asByte, asFloat)
	}
}

func TestIsFormula(t *testing.T) {
	if len(atLimit) != 80 || len(nestedAtLimit) != 80 {
		t.Fatalf("formulas at the limit with %d and %d bytes", len(atLimit), len(nestedAtLimit))
	}
	for _, w := range sampleFormulas() {
		if !isFormulaWith(w) {
			t.Fatalf("the sample %q is no formula", w)
		}
		if !impl.IsFormula(w) {
			t.Errorf("IsFormula(%q) = false", w)
		}
	}
	for _, w := range noFormulas {
		if impl.IsFormula(w) {
			t.Errorf("IsFormula(%q) = true", w)
		}
	}
	found := 0
	for _, w := range shortTexts("aE0()[]f", 6) {
		if impl.IsFormula(w) != isFormulaWith(w) {
			t.Errorf("IsFormula(%q) = %v", w, impl.IsFormula(w))
		}
		if isFormulaWith(w) {
			found++
		}
	}
	if found < 200 {
		t.Errorf("just %d short formulas", found)
	}
}

// TestIsFormulaNearTexts changes, leaves out and puts in one byte of formulas.
func TestIsFormulaNearTexts(t *testing.T) {
	for _, w := range []string{"a", "(aB)", "([01](dE))", "[a([bc][(AB)D])]", atLimit, nestedAtLimit} {
		for at := range len(w) {
			near := []string{w[:at] + w[at+1:]}
			for sign := range 256 {
				near = append(near, w[:at]+string([]byte{byte(sign)})+w[at+1:], w[:at]+string([]byte{byte(sign)})+w[at:])
			}
			for _, other := range near {
				if impl.IsFormula(other) != isFormulaWith(other) {
					t.Errorf("IsFormula(%q) = %v", other, impl.IsFormula(other))
				}
			}
		}
	}
}

// formulaCalls are the functions of formulas but IsFormula, with a number where they take one. Each
// returns whether its result is the zero value, and the code.
var formulaCalls = []struct {
	name string
	run  func(w string, number int64) (bool, int64)
}{
	{"FormulaValue", func(w string, number int64) (bool, int64) {
		value, code := impl.FormulaValue(w, number)
		return value == 0, code
	}},
	{"TableOfFormula", func(w string, number int64) (bool, int64) {
		x, code := impl.TableOfFormula(w, number)
		return x == impl.Table{}, code
	}},
	{"OppositeFormula", func(w string, number int64) (bool, int64) {
		text, code := impl.OppositeFormula(w)
		return text == "", code
	}},
	{"DualFormula", func(w string, number int64) (bool, int64) {
		text, code := impl.DualFormula(w)
		return text == "", code
	}},
	{"ShortFormula", func(w string, number int64) (bool, int64) {
		text, code := impl.ShortFormula(w)
		return text == "", code
	}},
	{"ExpandFormula", func(w string, number int64) (bool, int64) {
		text, code := impl.ExpandFormula(w)
		return text == "", code
	}},
	{"CountContacts", func(w string, number int64) (bool, int64) {
		count, code := impl.CountContacts(w)
		return count == 0, code
	}},
	{"NetworkOfFormula", func(w string, number int64) (bool, int64) {
		x, code := impl.NetworkOfFormula(w)
		return sameNetwork(x, impl.Network{}), code
	}},
}

// TestNoFormulas checks that what is no formula is found ahead of all other errors, by all
// functions: numbers that are not as told, the sign 1, and limits.
func TestNoFormulas(t *testing.T) {
	texts := append(slices.Clone(noFormulas), "1 ", "(1)", "(11", "(1"+strings.Repeat("[ab]", 20)+")", "1"+atLimit)
	for _, call := range formulaCalls {
		for _, w := range texts {
			for _, number := range append([]int64{0, 1, 5, 6, 31}, farNumbers...) {
				if zero, code := call.run(w, number); !zero || code != impl.ErrSyntax {
					t.Errorf("%s, %q and %d: zero value %v, code %d, want ErrSyntax", call.name, w, number, zero, code)
				}
			}
		}
	}
}

func TestFormulaValue(t *testing.T) {
	for _, w := range append(sampleFormulas(), smallFormulas()...) {
		for _, row := range rowsToLookAt() {
			if len(w) > 40 && row%5 != 1 {
				continue
			}
			got, code := impl.FormulaValue(w, row)
			if want := valueWith(w, row); got != want || code != impl.ErrNone {
				t.Errorf("FormulaValue(%q, %d) = %d, %d, want %d, 0", w, row, got, code, want)
			}
		}
	}
	for _, w := range []string{"0", "1", "a", "E", "(ab)", "[(a1)0]", atLimit} {
		for _, row := range farNumbers {
			if got, code := impl.FormulaValue(w, row); got != 0 || code != impl.ErrRange {
				t.Errorf("FormulaValue(%q, %d) = %d, %d, want 0, ErrRange", w, row, got, code)
			}
		}
	}
}

func TestFormulaValueByHand(t *testing.T) {
	for _, c := range []struct {
		w    string
		row  int64
		want int64
	}{
		{"0", 0, 0}, {"0", 31, 0}, {"1", 0, 1}, {"1", 31, 1},
		{"a", 0, 0}, {"a", 1, 1}, {"a", 30, 0}, {"a", 31, 1}, {"A", 0, 1}, {"A", 1, 0}, {"A", 30, 1}, {"A", 31, 0},
		{"b", 2, 1}, {"B", 2, 0}, {"c", 4, 1}, {"C", 4, 0}, {"d", 8, 1}, {"D", 8, 0}, {"e", 16, 1}, {"E", 16, 0}, {"e", 15, 0}, {"E", 15, 1},
		{"(ab)", 0, 0}, {"(ab)", 1, 0}, {"(ab)", 2, 0}, {"(ab)", 3, 1}, {"[ab]", 0, 0}, {"[ab]", 1, 1}, {"[ab]", 2, 1}, {"[ab]", 3, 1},
		{"(abcde)", 31, 1}, {"(abcde)", 15, 0}, {"(ABCDE)", 0, 1}, {"(ABCDE)", 16, 0}, {"[abcde]", 0, 0}, {"[ABCDE]", 31, 0}, {"[abcde]", 16, 1},
		{"(aA)", 0, 0}, {"(aA)", 1, 0}, {"[aA]", 0, 1}, {"[aA]", 1, 1},
		{"(a[Bc])", 5, 1}, {"(a[Bc])", 3, 0}, {"(a[Bc])", 7, 1}, {"(a[Bc])", 4, 0}, {"([(a[b(cd)])e]A)", 16, 1}, {"([(a[b(cd)])e]A)", 15, 0}, {"[(a[b(cd)])e]", 13, 1}, {"[(a[b(cd)])e]", 5, 0},
	} {
		if got, code := impl.FormulaValue(c.w, c.row); got != c.want || code != impl.ErrNone {
			t.Errorf("FormulaValue(%q, %d) = %d, %d, want %d, 0", c.w, c.row, got, code, c.want)
		}
	}
}

func TestTableOfFormula(t *testing.T) {
	for at, w := range append(sampleFormulas(), smallFormulas()...) {
		for n := int64(1); n <= 5; n++ {
			call := fmt.Sprintf("TableOfFormula(%q, %d)", w, n)
			got, code := impl.TableOfFormula(w, n)
			if n < inputsOfFormula(w) {
				wantTableError(t, call, got, code, impl.ErrRange)
			} else if n < 4 || at%4 == 0 {
				wantTable(t, call, got, code, tableOfFormulaWith(w, n))
			}
		}
	}
	for _, w := range []string{"0", "1", "a", "(bC)", "E", atLimit} {
		for _, n := range append([]int64{0, 6, 7}, farNumbers...) {
			got, code := impl.TableOfFormula(w, n)
			wantTableError(t, fmt.Sprintf("TableOfFormula(%q, %d)", w, n), got, code, impl.ErrRange)
		}
	}
}

func TestTableOfFormulaByHand(t *testing.T) {
	for _, c := range []struct {
		w    string
		n    int64
		text string
	}{
		{"[aB]", 2, "2:1101"}, // the example of the document
		{"0", 1, "1:00"}, {"1", 1, "1:11"}, {"0", 2, "2:0000"}, {"1", 3, "3:11111111"},
		{"a", 1, "1:01"}, {"A", 1, "1:10"}, {"a", 2, "2:0101"}, {"b", 2, "2:0011"}, {"B", 2, "2:1100"}, {"B", 3, "3:11001100"},
		{"(ab)", 2, "2:0001"}, {"[ab]", 2, "2:0111"}, {"[(aB)(Ab)]", 2, "2:0110"}, {"([ab][AB])", 2, "2:0110"},
		{"[(ab)(ac)(bc)]", 3, "3:00010111"}, {"(a[Bc])", 3, "3:01000101"}, {"(a(b(cd)))", 4, "4:0000000000000001"},
		{"e", 5, "5:" + strings.Repeat("0", 16) + strings.Repeat("1", 16)}, {"E", 5, "5:" + strings.Repeat("1", 16) + strings.Repeat("0", 16)},
		{"(aA)", 1, "1:00"}, {"[aA]", 1, "1:11"},
	} {
		got, code := impl.TableOfFormula(c.w, c.n)
		wantTable(t, fmt.Sprintf("TableOfFormula(%q, %d)", c.w, c.n), got, code, tableOfText(c.text))
	}
	// The input that counts is the greatest one, wherever its contact stands, of both kinds, and
	// also where the value does not depend on it.
	for i, letter := range []string{"a", "b", "c", "d", "e"} {
		for _, contact := range []string{letter, strings.ToUpper(letter)} {
			for _, w := range []string{contact, "(" + contact + "a)", "[A" + contact + "]", "(0" + contact + ")", "[a(b[1" + contact + "])]"} {
				for n := int64(1); n <= 5; n++ {
					if _, code := impl.TableOfFormula(w, n); (code == impl.ErrNone) != (n >= max(int64(i)+1, inputsOfFormula(w))) {
						t.Errorf("TableOfFormula(%q, %d): code %d", w, n, code)
					}
				}
			}
		}
	}
}

// swapFunctions are the functions that put other signs into a formula, sign by sign, with what each
// sign becomes, and the table that the formula then has.
var swapFunctions = []struct {
	name  string
	run   func(w string) (string, int64)
	signs map[rune]rune
	table func(x impl.Table) (impl.Table, int64)
}{
	{"OppositeFormula", impl.OppositeFormula, map[rune]rune{'0': '1', '1': '0', '(': '[', ')': ']', '[': '(', ']': ')', 'a': 'A', 'b': 'B', 'c': 'C', 'd': 'D', 'e': 'E', 'A': 'a', 'B': 'b', 'C': 'c', 'D': 'd', 'E': 'e'}, impl.OppositeOf},
	{"DualFormula", impl.DualFormula, map[rune]rune{'0': '1', '1': '0', '(': '[', ')': ']', '[': '(', ']': ')', 'a': 'a', 'b': 'b', 'c': 'c', 'd': 'd', 'e': 'e', 'A': 'A', 'B': 'B', 'C': 'C', 'D': 'D', 'E': 'E'}, impl.DualOf},
}

func TestOppositeAndDualFormulas(t *testing.T) {
	for _, f := range swapFunctions {
		for _, w := range append(sampleFormulas(), smallFormulas()...) {
			want := strings.Map(func(sign rune) rune { return f.signs[sign] }, w)
			wantFormula(t, f.name, f.run, w, want)
			wantFormula(t, f.name, f.run, want, w)
		}
	}
	for w, want := range map[string][2]string{
		"a": {"A", "a"}, "E": {"e", "E"}, "0": {"1", "1"}, "1": {"0", "0"},
		"(ab)": {"[AB]", "[ab]"}, "[aB]": {"(Ab)", "(aB)"}, "(a[Bc])": {"[A(bC)]", "[a(Bc)]"}, "(a[B0])": {"[A(b1)]", "[a(B1)]"},
		"[(cD)([e1]0A)]": {"([Cd][(E0)1a])", "([cD][(e0)1A])"}, "(abcdeABCDE)": {"[ABCDEabcde]", "[abcdeABCDE]"},
	} {
		wantFormula(t, "OppositeFormula", impl.OppositeFormula, w, want[0])
		wantFormula(t, "DualFormula", impl.DualFormula, w, want[1])
	}
}

// wantFormula fails unless a function leads from one formula to the other.
func wantFormula(t *testing.T, name string, run func(w string) (string, int64), w string, want string) {
	t.Helper()
	if got, code := run(w); got != want || code != impl.ErrNone {
		t.Errorf("%s(%q) = %q, %d, want %q, 0", name, w, got, code, want)
	}
}

func TestShortFormula(t *testing.T) {
	for _, w := range append(sampleFormulas(), smallFormulas()...) {
		wantFormula(t, "ShortFormula", impl.ShortFormula, w, shortWith(w))
		short, _ := impl.ShortFormula(w)
		if len(short) > len(w) || !isFormulaWith(short) {
			t.Errorf("the short formula of %q is %q", w, short)
		}
		if len(short) > 1 && strings.ContainsAny(short, "01") {
			t.Errorf("the short formula of %q is %q, with 0 or 1 in it", w, short)
		}
		wantFormula(t, "ShortFormula", impl.ShortFormula, short, short)
	}
}

func TestShortFormulaByHand(t *testing.T) {
	for w, want := range map[string]string{
		"0": "0", "1": "1", "a": "a", "E": "E",
		"(ab)": "(ab)", "[ab]": "[ab]", "(ba)": "(ba)", "(aA)": "(aA)", "[aA]": "[aA]", "[ab(ab)]": "[ab(ab)]", "([ab]ab)": "([ab]ab)", "[(ab)(ba)]": "[(ab)(ba)]",
		// 0 or 1 makes all of it 0 or 1, or is left out, and one member or none is left.
		"(a0)": "0", "(0a)": "0", "[a1]": "1", "[1a]": "1", "(a1)": "a", "(1a)": "a", "[a0]": "a", "[0a]": "a",
		"(11)": "1", "[00]": "0", "(111)": "1", "[000]": "0", "(01)": "0", "(10)": "0", "[01]": "1", "[10]": "1", "(00)": "0", "[11]": "1",
		"(a1b)": "(ab)", "[a0b]": "[ab]", "(1a1b1)": "(ab)", "(ab0cd)": "0", "[ab1cd]": "1",
		// The sign goes on to the formula around it, or stays out of its way.
		"(a[b1])": "a", "[a(b0)]": "a", "(a[b0])": "(ab)", "[a(b1)]": "[ab]", "(a(b0))": "0", "[a[b1]]": "1", "(a[(b0)0])": "0", "[a([b1]1)]": "1", "(a(11))": "a", "[a[00]]": "a", "(a[00])": "0", "[a(11)]": "1",
		"(([00]b)[a1])": "0", "([(a0)(b0)][c1])": "0", "[([a1]b)c]": "[bc]", "([(a0)b]c)": "(bc)", "[(1[00])(1[aa])]": "a",
		// Members of the same kind take the place of their formula.
		"((ab)c)": "(abc)", "(a(bc))": "(abc)", "((ab)(cd))": "(abcd)", "[[ab]c]": "[abc]", "[a[bc]d]": "[abcd]", "(((ab)c)d)": "(abcd)", "[a[b[c[de]]]]": "[abcde]", "(a[b[cd]])": "(a[bcd])", "[a(b(cd))e]": "[a(bcd)e]",
		// A member that equals one before it is left out, wherever that comes from.
		"(aa)": "a", "[aa]": "a", "(aaa)": "a", "(aba)": "(ab)", "[abab]": "[ab]", "(abcba)": "(abc)", "(a(ba))": "(ab)", "((ab)(ba))": "(ab)", "[[ab][bc]a]": "[abc]", "([ab][ab])": "[ab]", "([ab]c[ab])": "([ab]c)", "[(ab)c(ab)]": "[(ab)c]",
		"([ab][a0b])": "[ab]", "([ab](c[ab]))": "([ab]c)", "[(a1b)(ab)]": "(ab)", "[(ab)((ab)1)]": "(ab)", "([a(bb)][ab])": "[ab]", "([ab][ba])": "([ab][ba])", "[((ab)c)(a(bc))]": "(abc)",
		// What is left of a formula is of the kind of that around it.
		"([(ab)(ab)]c)": "(abc)", "[([ab][ab])c]": "[abc]", "(a[(ab)(ba0)])": "(ab)", "[c([ab]1)a]": "[cab]", "([(ab)0]b)": "(ab)", "(c[(a1)(a1)]a)": "(ca)", "(a[0(b[0(ca)])])": "(abc)",
		"([a(1b)]a(bb))": "([ab]ab)",
	} {
		wantFormula(t, "ShortFormula", impl.ShortFormula, w, want)
	}
	wantFormula(t, "ShortFormula", impl.ShortFormula, atLimit, "(aBcDeAbCdE)")
	wantFormula(t, "ShortFormula", impl.ShortFormula, nestedAtLimit, nestedAtLimit)
	different := "[(ab)(ac)(ad)(ae)(bc)(bd)(be)(cd)(ce)(de)(AB)(AC)(AD)(AE)(BC)(BD)(BE)(CD)(CE)ab]"
	if len(different) != 80 {
		t.Errorf("%d bytes", len(different))
	}
	wantFormula(t, "ShortFormula", impl.ShortFormula, different, different)
}

// twoHundred has 200 ways to choose members, and a make and a break contact in each.
const twoHundred = "(aA[ab][bc][cd][abcde][ABCDE])"

// formulasToExpand returns formulas about the limits of expanded formulas.
func formulasToExpand() []string {
	list := append(sampleFormulas(), smallFormulas()...)
	source := rand.New(rand.NewSource(6))
	for _, signs := range []string{"abcdeABCDE", "abcde", "abcA"} {
		for room := 12; room <= 48; room++ {
			for range 8 {
				list = append(list, formulaFrom(source, signs, room))
			}
		}
	}
	// Formulas in parallel with few members, one behind the other.
	for range 400 {
		w := "("
		for range 2 + source.Intn(7) {
			letters := source.Perm(10)[:1+source.Intn(3)]
			member := ""
			for _, place := range letters {
				member += "abcdeABCDE"[place : place+1]
			}
			if len(member) > 1 {
				member = "[" + member + "]"
			}
			w += member
		}
		list = append(list, w+")")
	}
	return list
}

func TestExpandFormula(t *testing.T) {
	counts := map[string]int{}
	for _, w := range formulasToExpand() {
		got, code := impl.ExpandFormula(w)
		want, wanted := expandedWith(w)
		if got != want || code != wanted {
			t.Errorf("ExpandFormula(%q) = %q, %d, want %q, %d", w, got, code, want, wanted)
		}
		switch {
		case wanted == impl.ErrNone && len(want) > 60:
			counts["long"]++
		case wanted == impl.ErrNone && len(want) > 1:
			counts["some"]++
		case len(waysWith(shortWith(w))) > 200:
			counts["ways"]++
		case wanted == impl.ErrLimit:
			counts["bytes"]++
		}
	}
	for _, name := range []string{"long", "some", "ways", "bytes"} {
		if counts[name] < 40 {
			t.Fatalf("the samples have too few of a kind: %v", counts)
		}
	}
}

func TestExpandFormulaByHand(t *testing.T) {
	for w, want := range map[string]string{
		"0": "0", "1": "1", "a": "a", "E": "E", "(ab)": "(ab)", "[ab]": "[ab]", "(abc)": "(abc)", "[(ab)c]": "[(ab)c]",
		"([aB][Ac])": "[(ac)(BA)(Bc)]",
		// The first members come first, and those chosen last change first.
		"([ab][cd])": "[(ac)(ad)(bc)(bd)]", "(a[bc]d)": "[(abd)(acd)]", "([ab][cd]e)": "[(ace)(ade)(bce)(bde)]", "([abc][de])": "[(ad)(ae)(bd)(be)(cd)(ce)]", "(c[ba])": "[(cb)(ca)]",
		// A choice within a member counts only where this member is chosen.
		"[a(b[cd])]": "[a(bc)(bd)]", "(e[a(b[cd])])": "[(ea)(ebc)(ebd)]", "([a(b[cd])][ed])": "[(ae)(ad)(bce)(bcd)(bde)(bd)]", "[([ab]c)([de]a)]": "[(ac)(bc)(da)(ea)]", "(a[(b[cd])([DE]C)])": "[(abc)(abd)(aDC)(aEC)]",
		// Series with a make and a break contact of the same input are left out.
		"(aA)": "0", "(a[bA])": "(ab)", "(a[AB]b)": "0", "[(aA)b]": "b", "[(aA)(bB)]": "0", "([ab][AB])": "[(aB)(bA)]", "(abcdeE)": "0", "(Bcb)": "0", "(abcdeABCDE)": "0", "[abcdeABCDE]": "[abcdeABCDE]", "[aA]": "[aA]", "(aB[cC])": "[(aBc)(aBC)]",
		// The short formula is expanded, and the parallel formula of series is shortened.
		"(a[b0])": "(ab)", "(a[b1])": "a", "(a0)": "0", "[a1]": "1", "([ab][a0b])": "[ab]", "([ab][ba])": "[(ab)ab(ba)]", "(a[ab])": "[a(ab)]", "(a[(ab)(ba)])": "(ab)", "([ab]a)": "[a(ba)]", "((ab)(c[de]))": "[(abcd)(abce)]", "([ab][ac])": "[a(ac)(ba)(bc)]",
		"([ab][ab][ab][ab][ab][ab][ab][ab])": "[ab]", // 256 ways, but 2 of the short formula
		// The series have more than MaxFormula bytes together, but the formula has not.
		"(ab[(ab)a][(ba)b][ab][ba]b)": "(ab)",
	} {
		wantFormula(t, "ExpandFormula", impl.ExpandFormula, w, want)
	}
}

// wantTooLong fails unless an expanded formula is refused because of the limits.
func wantTooLong(t *testing.T, w string) {
	t.Helper()
	if got, code := impl.ExpandFormula(w); got != "" || code != impl.ErrLimit {
		t.Errorf("ExpandFormula(%q) = %q, %d, want no formula, ErrLimit", w, got, code)
	}
}

func TestExpandFormulaWays(t *testing.T) {
	wantFormula(t, "ExpandFormula", impl.ExpandFormula, twoHundred, "0")
	// One way more, in front or behind, and two ways more than 199.
	wantTooLong(t, "["+twoHundred+"e]")
	wantTooLong(t, "[e"+twoHundred+"]")
	wantFormula(t, "ExpandFormula", impl.ExpandFormula, "[b(aA[abcde][BCDE][AbcdE])]", "b")
	// 3 times 6 times 11, and one for each of two members, are 200.
	many := "(bB[abc][abcdeA][ABCDEabcde(ab)])"
	wantFormula(t, "ExpandFormula", impl.ExpandFormula, "[d"+many+"c]", "[dc]")
	wantTooLong(t, "[d"+many+"ce]")
	wantFormula(t, "ExpandFormula", impl.ExpandFormula, "[d"+many+"cd]", "[dc]")
	wantFormula(t, "ExpandFormula", impl.ExpandFormula, "[(aA[abcde][BCDE][AbcdE])(bB[abcde][BCDE][Abcde])]", "0")
	wantTooLong(t, "[(aA[abcde][BCDE][AbcdE])(bB[abcde][BCDE][Abcde])c]")
	// The ways count as they are in the short formula, though all of them lead to the same series.
	wantTooLong(t, "(aA[ab][ba][cd][dc][ac][ca][bd][db])")
	wantTooLong(t, "(aA[ab][bc][cd][de][ae][ac][bd][ad])")
	wantFormula(t, "ExpandFormula", impl.ExpandFormula, "(aA[ab][bc][cd][de][ae][ac][bd][ab])", "0")
	wantFormula(t, "ExpandFormula", impl.ExpandFormula, "(aA[ab][bc][cd][de][ae][ac][bd]0)", "0")
	wantTooLong(t, "(aA[ab][bc][cd][de][ae][ac][bd][ad]1)")
	// As many as there can be: they must not take long.
	wantTooLong(t, "([abc][bca][cab][cde][dec][ecd][ABC][BCA][CAB][CDE][DEC][ECD][abd][bda][dab])")
}

func TestExpandFormulaBytes(t *testing.T) {
	members := []string{"(bc)", "(bd)", "(be)", "(bC)", "(bD)", "(bE)", "(cd)", "(ce)", "(cB)", "(cD)", "(cE)", "(de)", "(dB)", "(dC)", "(dE)"}
	// Each single member comes to 4 bytes, and each one of two to 5, besides 2 brackets.
	full := "(a[BC" + strings.Join(members[:14], "") + "])"
	want := "[(aB)(aC)"
	for _, member := range members[:14] {
		want += "(a" + member[1:]
	}
	want += "]"
	if len(want) != 80 {
		t.Fatalf("%q has %d bytes", want, len(want))
	}
	wantFormula(t, "ExpandFormula", impl.ExpandFormula, full, want)
	wantFormula(t, "ExpandFormula", impl.ExpandFormula, want, want)
	wantTooLong(t, "(a[B"+strings.Join(members, "")+"])")
	wantTooLong(t, "(a[BC"+strings.Join(members, "")+"])")
	wantTooLong(t, "([ab][cd][abe][cde])")
	// One member with a contact that the series has already is no longer than without it.
	wantFormula(t, "ExpandFormula", impl.ExpandFormula, "(a[BC"+strings.Join(members[:13], "")+"(ad)])", strings.Replace(want, "(adC)]", "(ad)]", 1))
}

func TestCountContacts(t *testing.T) {
	for _, w := range append(sampleFormulas(), smallFormulas()...) {
		want := int64(0)
		for _, letter := range "abcdeABCDE" {
			want += int64(strings.Count(w, string(letter)))
		}
		if got, code := impl.CountContacts(w); got != want || code != impl.ErrNone {
			t.Errorf("CountContacts(%q) = %d, %d, want %d, 0", w, got, code, want)
		}
	}
	for w, want := range map[string]int64{"0": 0, "1": 0, "a": 1, "E": 1, "(00)": 0, "[10]": 0, "(aa)": 2, "(a[Bc0])": 3, "[a(1b[cA])]": 4, "(abcdeABCDE)": 10, atLimit: 78, nestedAtLimit: 30} {
		if got, code := impl.CountContacts(w); got != want || code != impl.ErrNone {
			t.Errorf("CountContacts(%q) = %d, %d, want %d, 0", w, got, code, want)
		}
	}
}

// networksToBuild returns formulas about the limits of networks, many of them without the sign 1.
func networksToBuild() []string {
	list := append(sampleFormulas(), smallFormulas()...)
	source := rand.New(rand.NewSource(5))
	for room := 4; room <= 32; room++ {
		for range 30 {
			list = append(list, formulaFrom(source, "abcdeABCDE0", room))
		}
	}
	return list
}

func TestNetworkOfFormula(t *testing.T) {
	counts := map[string]int{}
	for _, w := range networksToBuild() {
		got, code := impl.NetworkOfFormula(w)
		call := fmt.Sprintf("NetworkOfFormula(%q)", w)
		want := networkOfFormulaWith(strings.ReplaceAll(w, "1", "0"))
		switch {
		case strings.Contains(w, "1"):
			wantNetworkError(t, call, got, code, impl.ErrState)
			counts["state"]++
		case want.Points > 8 && len(want.Contacts) <= 12:
			wantNetworkError(t, call, got, code, impl.ErrLimit)
			counts["points"]++
		case want.Points <= 8 && len(want.Contacts) > 12:
			wantNetworkError(t, call, got, code, impl.ErrLimit)
			counts["contacts"]++
		case want.Points > 8:
			wantNetworkError(t, call, got, code, impl.ErrLimit)
			counts["both"]++
		default:
			wantNetwork(t, call, got, code, want)
			counts["built"]++
		}
	}
	for _, name := range []string{"state", "points", "contacts", "both", "built"} {
		if counts[name] < 20 {
			t.Errorf("the samples have too few of a kind: %v", counts)
		}
	}
}

func TestNetworkOfFormulaByHand(t *testing.T) {
	for w, want := range map[string]string{
		"0": "2:", "a": "2:01a", "E": "2:01E", "(ab)": "3:02a,12b", "[ab]": "2:01a,01b", "(ba)": "3:02b,12a", "[ba]": "2:01a,01b", "[aa]": "2:01a,01a", "[Aa]": "2:01a,01A", "(aaa)": "4:02a,13a,23a",
		"(a[Bc])": "3:02a,12B,12c", "[a(Bc)]": "3:01a,02B,12c", "([ab][cd])": "3:02a,02b,12c,12d", "[(ab)(cd)]": "4:02a,03c,12b,13d",
		// The points of a series come ahead of those within its members.
		"((ab)c)": "4:03a,12c,23b", "(a(bc))": "4:02a,13c,23b", "((ab)(cd))": "5:03a,14d,23b,24c", "([(ab)c]d)": "4:02c,03a,12d,23b", "([(ab)c][(de)A])": "5:02c,03a,12A,14e,23b,24d", "((ab)c(de))": "6:04a,15e,23c,24b,35d",
		"[(a[(bc)d]e)(AB)]": "6:02a,05A,13e,15B,23d,24b,34c", "(a[b(c[d(eA)])])": "5:02a,12b,13d,14A,23c,34e",
		// What is open is no contact, but stands between points.
		"[00]": "2:", "[a0]": "2:01a", "(a0)": "3:02a", "(0a)": "3:12a", "(00)": "3:", "(a0b)": "4:02a,13b", "[(a0)b]": "3:01b,02a", "(0(00)0)": "5:", "(0[a0])": "3:12a",
		// As many points, and as many contacts, as there can be, and both.
		"(abcdeAB)": "8:02a,17B,23b,34c,45d,56e,67A", "((((((ab)c)d)e)A)B)": "8:07a,12B,23A,34e,45d,56c,67b", "(0000000)": "8:", "[(ab)(ab)(ab)(ab)(ab)(ab)]": "8:02a,03a,04a,05a,06a,07a,12b,13b,14b,15b,16b,17b",
		"[abcdeABCDEaa]": "2:01a,01a,01a,01A,01b,01B,01c,01C,01d,01D,01e,01E", "[abcdeABCDEaa00]": "2:01a,01a,01a,01A,01b,01B,01c,01C,01d,01D,01e,01E", "([ab][ab][ab][ab][ab]ab)": "8:02a,02b,17b,23a,23b,34a,34b,45a,45b,56a,56b,67a",
	} {
		x, code := impl.NetworkOfFormula(w)
		if wordsOfNetwork(x) != want || code != impl.ErrNone {
			t.Errorf("NetworkOfFormula(%q) = %s, %d, want %s, 0", w, wordsOfNetwork(x), code, want)
		}
	}
	for w, want := range map[string]int64{
		"1": impl.ErrState, "(a1)": impl.ErrState, "[a1]": impl.ErrState, "[a(b[0(1c)])]": impl.ErrState, "(01)": impl.ErrState,
		// One point and one contact more than there can be, though some of them are idle.
		"(abcdeABC)": impl.ErrLimit, "(00000000)": impl.ErrLimit, "(a(b(c(d(e(A(BC)))))))": impl.ErrLimit, "[(abcdeABC)a]": impl.ErrLimit, "[(ab)(ab)(ab)(ab)(ab)(ab)(a0)]": impl.ErrLimit,
		"[abcdeABCDEaaa]": impl.ErrLimit, "(0[abcdeABCDEaaa])": impl.ErrLimit, "([ab][ab][ab][ab][ab][ab]a)": impl.ErrLimit, atLimit: impl.ErrLimit,
		// The sign 1 is found ahead of the limits.
		"(abcdeABC1)": impl.ErrState, "[1abcdeABCDEaaa]": impl.ErrState, "(1" + atLimit[2:]: impl.ErrState, "[0[11]" + atLimit[7:79] + "]": impl.ErrState,
	} {
		x, code := impl.NetworkOfFormula(w)
		wantNetworkError(t, fmt.Sprintf("NetworkOfFormula(%q)", w), x, code, want)
	}
}

// TestNetworksOfFormulasAreNew writes on a network, and looks at what else is there, and asks again.
func TestNetworksOfFormulasAreNew(t *testing.T) {
	for _, w := range []string{"[aa]", "(a[Bc])", "[(ab)(cd)(AB)]", "[abcdeABCDEaa]", "([ab][ab][ab][ab][ab]ab)"} {
		x, _ := impl.NetworkOfFormula(w)
		want := copyOfLists(x.Contacts)
		wantApart(t, fmt.Sprintf("NetworkOfFormula(%q)", w), x.Contacts)
		for i := range x.Contacts {
			scribble(x.Contacts[i])
			x.Contacts[i] = nil
		}
		if again, _ := impl.NetworkOfFormula(w); !sameLists(again.Contacts, want) {
			t.Errorf("NetworkOfFormula(%q) once more: %v, want %v", w, again, want)
		}
	}
}

// contactNumbersWith returns the contact number of each table of n inputs, by its Values. Numbers
// become less until no two tables in series or in parallel make one of them less.
func contactNumbersWith(n int64) []int64 {
	all := int64(1)<<(1<<n) - 1
	numbers := slices.Repeat([]int64{1000}, int(all)+1)
	numbers[0], numbers[all] = 0, 0
	for i := range n {
		letter := tableWith(n, func(row []int64) int64 { return row[i] }).Values
		numbers[letter], numbers[all-letter] = 1, 1
	}
	for changed := true; changed; {
		changed = false
		for x := range numbers {
			for y := range numbers[:x] {
				for _, z := range []int{x & y, x | y} {
					if sum := numbers[x] + numbers[y]; sum < numbers[z] {
						numbers[z] = sum
						changed = true
					}
				}
			}
		}
	}
	return numbers
}

// wantNumber fails unless a number and a code are as wanted.
func wantNumber(t *testing.T, call string, got int64, code int64, want int64) {
	t.Helper()
	if got != want || code != impl.ErrNone {
		t.Errorf("%s = %d, %d, want %d, 0", call, got, code, want)
	}
}

func TestContactNumbers(t *testing.T) {
	for n := int64(1); n <= 3; n++ {
		numbers := contactNumbersWith(n)
		for values, want := range numbers {
			x := impl.Table{Inputs: n, Values: int64(values)}
			got, code := impl.ContactNumber(x)
			wantNumber(t, fmt.Sprintf("ContactNumber(%v)", x), got, code, want)
		}
		for k := range int64(21) {
			want := int64(0)
			for _, number := range numbers {
				if number == k {
					want++
				}
			}
			got, code := impl.CountWithContacts(n, k)
			wantNumber(t, fmt.Sprintf("CountWithContacts(%d, %d)", n, k), got, code, want)
		}
	}
}

func TestContactNumbersByHand(t *testing.T) {
	for text, want := range map[string]int64{
		"1:00": 0, "1:11": 0, "1:01": 1, "1:10": 1, "2:0000": 0, "2:1111": 0, "2:0101": 1, "2:1100": 1, "2:0001": 2, "2:0111": 2, "2:0100": 2, "2:1101": 2, "2:0110": 4, "2:1001": 4,
		"3:00000000": 0, "3:11111111": 0, "3:00001111": 1, "3:10101010": 1, "3:00010001": 2, "3:00000001": 3, "3:01111111": 3, "3:10000000": 3, "3:00011111": 3, "3:00000111": 3,
		"3:01100110": 4, "3:00110101": 4, "3:00010111": 5, "3:01111110": 6, "3:10000001": 6, "3:01101001": 10, "3:10010110": 10,
	} {
		got, code := impl.ContactNumber(tableOfText(text))
		wantNumber(t, "ContactNumber of "+text, got, code, want)
	}
	for n, counts := range map[int64][]int64{1: {2, 2}, 2: {2, 4, 8, 0, 2}} {
		for k := range int64(21) {
			want := int64(0)
			if k < int64(len(counts)) {
				want = counts[k]
			}
			got, code := impl.CountWithContacts(n, k)
			wantNumber(t, fmt.Sprintf("CountWithContacts(%d, %d)", n, k), got, code, want)
		}
	}
	// Of 3 inputs: 0 and 1; the contacts; two of them; and the two tables that need most.
	for k, want := range map[int64]int64{0: 2, 1: 6, 2: 24, 10: 2, 11: 0, 12: 0, 19: 0, 20: 0} {
		got, code := impl.CountWithContacts(3, k)
		wantNumber(t, fmt.Sprintf("CountWithContacts(3, %d)", k), got, code, want)
	}
	for n, all := range map[int64]int64{1: 4, 2: 16, 3: 256} {
		sum := int64(0)
		for k := range int64(21) {
			count, _ := impl.CountWithContacts(n, k)
			sum += count
		}
		if sum != all {
			t.Errorf("the counts for %d inputs add up to %d, want %d", n, sum, all)
		}
	}
}

// formulasWithContacts returns for 0, 1, .. contacts of the first n inputs, up to 4, formulas that
// have all tables that formulas with so many contacts have.
func formulasWithContacts(n int64) [][]string {
	formulas := [][]string{{"0", "1"}, strings.Split("abc"[:n]+"ABC"[:n], "")}
	for count := 2; count <= 4; count++ {
		var list []string
		for first := 1; first < count; first++ {
			for _, w := range formulas[first] {
				for _, other := range formulas[count-first] {
					list = append(list, "("+w+other+")", "["+w+other+"]")
				}
			}
		}
		formulas = append(formulas, list)
	}
	return formulas
}

// TestContactNumbersOfFormulas looks at all formulas with at most 4 contacts: tables that have one
// have its number, and those that have none have a greater one.
func TestContactNumbersOfFormulas(t *testing.T) {
	for n := int64(1); n <= 3; n++ {
		least := map[impl.Table]int64{}
		for count, list := range formulasWithContacts(n) {
			for _, w := range list {
				x, _ := impl.TableOfFormula(w, n)
				if _, there := least[x]; !there {
					least[x] = int64(count)
				}
			}
		}
		for values := range int64(1) << (1 << n) {
			x := impl.Table{Inputs: n, Values: values}
			got, code := impl.ContactNumber(x)
			if want, there := least[x]; there {
				wantNumber(t, fmt.Sprintf("ContactNumber(%v)", x), got, code, want)
			} else if got <= 4 || code != impl.ErrNone {
				t.Errorf("ContactNumber(%v) = %d, %d, want more than 4", x, got, code)
			}
		}
	}
}

func TestContactNumberErrors(t *testing.T) {
	for _, x := range noTables {
		if got, code := impl.ContactNumber(x); got != 0 || code != impl.ErrInvalid {
			t.Errorf("ContactNumber(%v) = %d, %d, want 0, ErrInvalid", x, got, code)
		}
	}
	tooGreat := 0
	for _, x := range sampleTables() {
		if got, code := impl.ContactNumber(x); x.Inputs > 3 && (got != 0 || code != impl.ErrLimit) {
			t.Errorf("ContactNumber(%v) = %d, %d, want 0, ErrLimit", x, got, code)
		}
		if x.Inputs > 3 {
			tooGreat++
		}
	}
	if tooGreat < 100 {
		t.Errorf("just %d tables of more than 3 inputs", tooGreat)
	}
}

func TestCountWithContactsErrors(t *testing.T) {
	far := append([]int64{-1, 21, 22}, slices.DeleteFunc(slices.Clone(farNumbers), func(k int64) bool { return k >= 0 && k <= 20 })...)
	for n := int64(1); n <= 3; n++ {
		for _, k := range far {
			if got, code := impl.CountWithContacts(n, k); got != 0 || code != impl.ErrRange {
				t.Errorf("CountWithContacts(%d, %d) = %d, %d, want 0, ErrRange", n, k, got, code)
			}
		}
	}
	for _, n := range append([]int64{0, 4, 5, 6}, farNumbers...) {
		for _, k := range append([]int64{0, 1, 20}, far...) {
			if got, code := impl.CountWithContacts(n, k); got != 0 || code != impl.ErrRange {
				t.Errorf("CountWithContacts(%d, %d) = %d, %d, want 0, ErrRange", n, k, got, code)
			}
		}
	}
}

// TestPromise4 checks the fourth promise by the functions of the chapters alone.
func TestPromise4(t *testing.T) {
	for _, w := range append(sampleFormulas(), smallFormulas()...) {
		x, code := impl.TableOfFormula(w, 5)
		if code != impl.ErrNone {
			t.Errorf("TableOfFormula(%q, 5): code %d", w, code)
		}
		for _, f := range swapFunctions {
			other, code := f.run(w)
			if code != impl.ErrNone {
				t.Errorf("%s(%q): code %d", f.name, w, code)
			}
			want, _ := f.table(x)
			y, code := impl.TableOfFormula(other, 5)
			wantTable(t, fmt.Sprintf("the table of %s(%q)", f.name, w), y, code, want)
		}
		if expanded, code := impl.ExpandFormula(w); code == impl.ErrNone {
			y, code := impl.TableOfFormula(expanded, 5)
			wantTable(t, fmt.Sprintf("the table of ExpandFormula(%q)", w), y, code, x)
		}
	}
}

// TestPromise12 checks the twelfth promise by the functions of the chapters alone.
func TestPromise12(t *testing.T) {
	for _, w := range append(sampleFormulas(), smallFormulas()...) {
		short, code := impl.ShortFormula(w)
		if code != impl.ErrNone {
			t.Errorf("ShortFormula(%q): code %d", w, code)
		}
		x, _ := impl.TableOfFormula(w, 5)
		y, code := impl.TableOfFormula(short, 5)
		wantTable(t, fmt.Sprintf("the table of ShortFormula(%q)", w), y, code, x)
	}
}

// TestPromise13 checks the thirteenth promise by the functions of the chapters alone.
func TestPromise13(t *testing.T) {
	built := 0
	for _, w := range networksToBuild() {
		x, code := impl.NetworkOfFormula(w)
		if code != impl.ErrNone {
			continue
		}
		built++
		if !impl.IsNetwork(x) {
			t.Errorf("NetworkOfFormula(%q) = %v, which is no network", w, x)
		}
		want, _ := impl.TableOfFormula(w, 5)
		y, code := impl.TableBetween(x, 5, 0, 1)
		wantTable(t, fmt.Sprintf("the table of NetworkOfFormula(%q)", w), y, code, want)
	}
	if built < 200 {
		t.Errorf("just %d networks", built)
	}
}
