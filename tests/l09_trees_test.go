package tests

import (
	"fmt"
	"math"
	"math/rand"
	"slices"
	"strings"
	"testing"

	"loop.example/g01392/impl"
)

// wayTo is the way to a sign of a text: the place of the digit from which one comes to it and the
// value of its input (from is -1 for the first sign), and the inputs that the digits on the way tell,
// with their values in a row.
type wayTo struct {
	sign  byte
	from  int
	value int64
	told  int64
	row   int64
}

// comes reports whether a row comes to the sign.
func (way wayTo) comes(row int64) bool {
	return row&way.told == way.row
}

// comesOf reports whether one of some rows comes to the sign.
func (way wayTo) comesOf(rows []int64) bool {
	return slices.ContainsFunc(rows, way.comes)
}

// waysTo returns the ways to the signs of a selector for n inputs, in 1..5, and true, or false if the
// text is none. It keeps a pile of the ways that still lack a text, the next one on top.
func waysTo(n int64, w string) ([]wayTo, bool) {
	lacking := []wayTo{{from: -1}}
	var ways []wayTo
	for place := range len(w) {
		if len(lacking) == 0 {
			return nil, false
		}
		way := lacking[len(lacking)-1]
		lacking = lacking[:len(lacking)-1]
		way.sign = w[place]
		ways = append(ways, way)
		input := strings.IndexByte("01234"[:n], way.sign)
		switch {
		case way.sign == '.' && way.told == 1<<n-1:
		case input >= 0 && digitsOf(way.told, 5)[input] == 0:
			one := wayTo{from: place, value: 1, told: way.told + 1<<input, row: way.row + 1<<input}
			zero := wayTo{from: place, value: 0, told: one.told, row: way.row}
			lacking = append(lacking, one, zero)
		default:
			return nil, false
		}
	}
	return ways, len(lacking) == 0
}

// grownSelectors returns the selectors for n inputs that begin with a text, in order, sign behind sign.
// The sets of the inputs told on the ways that lack a text are in a pile, the next one on top.
func grownSelectors(n int64, text string, lacking []int64) []string {
	if len(lacking) == 0 {
		return []string{text}
	}
	told, others := lacking[len(lacking)-1], slices.Clone(lacking[:len(lacking)-1])
	if told == 1<<n-1 {
		return grownSelectors(n, text+".", others)
	}
	var list []string
	for input, digit := range digitsOf(told, n) {
		if digit == 0 {
			then := told + 1<<input
			list = append(list, grownSelectors(n, text+fmt.Sprint(input), append(slices.Clone(others), then, then))...)
		}
	}
	return list
}

// allSelectors returns all selectors for n inputs, in order.
func allSelectors(n int64) []string {
	return grownSelectors(n, "", []int64{0})
}

// selectorFrom returns a selector for the inputs of a list from a sequence.
func selectorFrom(source *rand.Rand, inputs []int64) string {
	if len(inputs) == 0 {
		return "."
	}
	at := source.Intn(len(inputs))
	others := slices.Delete(slices.Clone(inputs), at, at+1)
	return fmt.Sprint(inputs[at]) + selectorFrom(source, others) + selectorFrom(source, others)
}

// sameOrder returns the selector that has the inputs of a list in the same order at each way.
func sameOrder(inputs ...int64) string {
	if len(inputs) == 0 {
		return "."
	}
	behind := sameOrder(inputs[1:]...)
	return fmt.Sprint(inputs[0]) + behind + behind
}

// knownSelector is a selector for n inputs with the ways to its signs.
type knownSelector struct {
	n    int64
	w    string
	ways []wayTo
}

// ends returns the ways to the ends.
func (x knownSelector) ends() []wayTo {
	return slices.DeleteFunc(slices.Clone(x.ways), func(way wayTo) bool { return way.sign != '.' })
}

// loads returns the loads of the inputs.
func (x knownSelector) loads() []int64 {
	loads := make([]int64, x.n)
	for _, way := range x.ways {
		if way.sign != '.' {
			loads[way.sign-'0']++
		}
	}
	return loads
}

// flat returns the loads in descending order.
func (x knownSelector) flat() []int64 {
	loads := x.loads()
	slices.Sort(loads)
	slices.Reverse(loads)
	return loads
}

// contactsFor returns the number of contacts for a set of rows: each sign but the first one is behind
// a contact, which is there if one of the rows comes to the sign.
func (x knownSelector) contactsFor(rows []int64) int64 {
	count := int64(0)
	for _, way := range x.ways[1:] {
		if way.comesOf(rows) {
			count++
		}
	}
	return count
}

// network returns the points and the contacts for a set of rows, whether within the limits or not.
func (x knownSelector) network(rows []int64) impl.Network {
	points := int64(2)
	numbers := make([]int64, len(x.ways))
	var contacts [][]int64
	for place, way := range x.ways {
		if place == 0 || !way.comesOf(rows) {
			continue
		}
		numbers[place] = 1
		if way.sign != '.' {
			numbers[place] = points
			points++
		}
		p, q := numbers[way.from], numbers[place]
		contacts = append(contacts, []int64{min(p, q), max(p, q), int64(x.ways[way.from].sign - '0'), 1 - way.value})
	}
	return sortedNetwork(points, contacts)
}

// selectorsKnown returns what is known of some selectors for n inputs.
func selectorsKnown(n int64, texts []string) []knownSelector {
	var list []knownSelector
	for _, w := range texts {
		if ways, isOne := waysTo(n, w); isOne {
			list = append(list, knownSelector{n, w, ways})
		}
	}
	return list
}

// sampleSelectors returns all selectors for 1 to 4 inputs, and for 5 those with the same order at each
// way and others from a fixed sequence.
func sampleSelectors() []knownSelector {
	var list []knownSelector
	for n := int64(1); n <= 4; n++ {
		list = append(list, selectorsKnown(n, allSelectors(n))...)
	}
	var texts []string
	for _, order := range allOrders(5) {
		texts = append(texts, sameOrder(order...))
	}
	source := rand.New(rand.NewSource(9))
	for range 120 {
		texts = append(texts, selectorFrom(source, []int64{0, 1, 2, 3, 4}))
	}
	return append(list, selectorsKnown(5, texts)...)
}

// fewSelectors returns some of the sample selectors, with all for 1 to 3 inputs among them.
func fewSelectors() []knownSelector {
	list := sampleSelectors()
	few := slices.Clone(list[:15])
	for at := 15; at < len(list); at += 13 {
		few = append(few, list[at])
	}
	return few
}

func TestSamplesOfSelectors(t *testing.T) {
	counts := map[int64]int{}
	for _, x := range sampleSelectors() {
		counts[x.n]++
	}
	if counts[1] != 1 || counts[2] != 2 || counts[3] != 12 || counts[4] != 576 || counts[5] != 240 {
		t.Errorf("numbers of selectors by their inputs: %v", counts)
	}
}

func TestMaxSearched(t *testing.T) {
	if asByte, asFloat := byte(impl.MaxSearched), float64(impl.MaxSearched); asByte != 4 || asFloat != 4 {
		t.Errorf("MaxSearched = %d", impl.MaxSearched)
	}
}

func TestIsSelector(t *testing.T) {
	kinds := map[string]int{}
	for _, x := range sampleSelectors() {
		for n := int64(-1); n <= 7; n++ {
			if got := impl.IsSelector(n, x.w); got != (n == x.n) {
				t.Errorf("IsSelector(%d, %q) = %v", n, x.w, got)
			}
		}
		kinds[fmt.Sprintf("%d inputs", x.n)]++
	}
	wantKinds(t, kinds, "4 inputs", "5 inputs")
	for n, length := range map[int64]int{1: 4, 2: 8} {
		for _, signs := range []string{".01", "012.", "0:.", "/.0"} {
			for _, w := range shortTexts(signs, length) {
				_, want := waysTo(n, w)
				if got := impl.IsSelector(n, w); got != want {
					t.Errorf("IsSelector(%d, %q) = %v", n, w, got)
				}
			}
		}
	}
}

// TestChangedSelectors puts every byte in the place of every sign of selectors, takes signs out, and
// puts signs in.
func TestChangedSelectors(t *testing.T) {
	kinds := map[bool]int{}
	ask := func(n int64, w string) {
		_, want := waysTo(n, w)
		kinds[want]++
		if got := impl.IsSelector(n, w); got != want {
			t.Errorf("IsSelector(%d, %q) = %v", n, w, got)
		}
	}
	for at, x := range fewSelectors() {
		for place := range x.w {
			for sign := range 256 {
				if at < 20 || sign >= '-' && sign <= '9' {
					ask(x.n, x.w[:place]+string([]byte{byte(sign)})+x.w[place+1:])
				}
			}
			ask(x.n, x.w[:place])
			ask(x.n, x.w[place+1:])
			ask(x.n, x.w[:place]+x.w[place+1:])
			for _, sign := range strings.Split("01234.", "") {
				ask(x.n, x.w[:place]+sign+x.w[place:])
			}
			for other := range place {
				text := []byte(x.w)
				text[place], text[other] = text[other], text[place]
				ask(x.n, string(text))
			}
		}
	}
	if kinds[true] < 1000 || kinds[false] < 1000 {
		t.Errorf("too few samples: %v", kinds)
	}
}

func TestIsSelectorByHand(t *testing.T) {
	for _, c := range []struct {
		n    int64
		w    string
		want bool
	}{
		{1, "0..", true}, {2, "01..1..", true}, {2, "10..0..", true},
		// Different inputs are next on the two ways of one digit.
		{3, "012..2..21..1..", true}, {3, "021..1..12..2..", true}, {3, "201..1..10..0..", true}, {3, "012..2..12..2..", true},
		{4, "0123..3..32..2..213..3..31..1..", true}, {5, sameOrder(0, 1, 2, 3, 4), true}, {5, sameOrder(4, 3, 2, 1, 0), true},
		// Too short, too long, something behind a whole one, nothing, an end alone.
		{1, "", false}, {1, ".", false}, {1, "0", false}, {1, "0.", false}, {1, "..", false}, {1, "...", false}, {1, "0...", false}, {1, "0..0", false}, {1, "0..0..", false}, {1, "00..0..", false}, {1, ".0.", false}, {1, "..0", false}, {1, " 0..", false}, {1, "0.. ", false}, {1, "0..\n", false}, {1, "0..\x00", false},
		{2, "", false}, {2, ".", false}, {2, "0..", false}, {2, "01..1.", false}, {2, "01..1...", false}, {2, "01..1..0", false}, {2, "1..1..", false}, {2, "0.1..", false}, {2, "01...", false}, {2, "01....1", false}, {2, "0.1..1.", false}, {2, "0....1.", false}, {2, ".......", false},
		// An input twice on one way.
		{2, "00..0..", false}, {2, "00..1..", false}, {2, "01..0..", false}, {2, "11..1..", false}, {2, "11..0..", false}, {3, "012..1..21..1..", false}, {3, "012..2..21..2..", false}, {3, "012..2..01..1..", false}, {3, "002..2..21..1..", false},
		// An input that is not below n.
		{1, "1..", false}, {1, "4..", false}, {2, "02..1..", false}, {2, "01..2..", false}, {2, "21..1..", false}, {3, "013..3..31..1..", false}, {4, sameOrder(0, 1, 2, 4), false}, {5, sameOrder(0, 1, 2, 3, 5), false}, {5, sameOrder(5, 1, 2, 3, 4), false},
		// A sign that is neither a digit nor an end.
		{1, "a..", false}, {1, "/..", false}, {1, ":..", false}, {1, "0.,", false}, {1, "0-.", false}, {1, "\x00..", false}, {1, "\xff..", false}, {1, "٠.", false}, {1, "０", false}, {2, "01..1.,", false}, {2, "0a..1..", false}, {2, "01..-..", false}, {1, "0..", true},
		// As long as selectors for other numbers of inputs.
		{3, "01..1..", false}, {1, "01..1..", false}, {2, "012..2..21..1..", false}, {4, "012..2..21..1..", false},
		{5, strings.Repeat("0", 63), false}, {5, strings.Repeat(".", 63), false}, {5, strings.Repeat("0", 1<<20), false}, {5, sameOrder(0, 1, 2, 3, 4) + strings.Repeat(".", 1<<20), false},
		{0, "", false}, {0, ".", false}, {6, sameOrder(0, 1, 2, 3, 4, 5), false}, {-1, "", false}, {-1, ".", false},
	} {
		if got := impl.IsSelector(c.n, c.w); got != c.want {
			t.Errorf("IsSelector(%d, %.80q) = %v", c.n, c.w, got)
		}
	}
	for _, n := range append([]int64{0, 6, 7}, farNumbers...) {
		for _, w := range []string{"", ".", "0..", "01..1..", sameOrder(0, 1, 2, 3, 4), sameOrder(0, 1, 2, 3, 4, 5)} {
			if impl.IsSelector(n, w) {
				t.Errorf("IsSelector(%d, %q) is true", n, w)
			}
		}
	}
}

func TestStraightSelector(t *testing.T) {
	for n, want := range map[int64]string{
		1: "0..", 2: "01..1..", 3: "012..2..12..2..", 4: "0123..3..23..3..123..3..23..3..",
		5: "01234..4..34..4..234..4..34..4..1234..4..34..4..234..4..34..4..",
	} {
		got, code := impl.StraightSelector(n)
		wantText(t, fmt.Sprintf("StraightSelector(%d)", n), got, code, want)
		if !impl.IsSelector(n, got) {
			t.Errorf("IsSelector(%d, %q) is false", n, got)
		}
	}
	for _, n := range append([]int64{0, 6, 7}, farNumbers...) {
		if got, code := impl.StraightSelector(n); got != "" || code != impl.ErrRange {
			t.Errorf("StraightSelector(%d) = %q, %d, want no text, ErrRange", n, got, code)
		}
	}
}

func TestEndsAndRows(t *testing.T) {
	for _, x := range sampleSelectors() {
		want := []int64{}
		for _, way := range x.ends() {
			want = append(want, way.row)
		}
		rows, code := impl.RowsOfEnds(x.n, x.w)
		wantList(t, fmt.Sprintf("RowsOfEnds(%d, %q)", x.n, x.w), rows, code, want)
		for row := range int64(1) << x.n {
			want := slices.IndexFunc(x.ends(), func(way wayTo) bool { return way.comes(row) })
			end, code := impl.EndOfRow(x.n, x.w, row)
			wantNumber(t, fmt.Sprintf("EndOfRow(%d, %q, %d)", x.n, x.w, row), end, code, int64(want))
		}
	}
}

func TestEndsAndRowsByHand(t *testing.T) {
	for _, c := range []struct {
		n    int64
		w    string
		rows []int64
	}{
		{1, "0..", []int64{0, 1}},
		{2, "01..1..", []int64{0, 2, 1, 3}},
		{2, "10..0..", []int64{0, 1, 2, 3}},
		{3, "012..2..12..2..", []int64{0, 4, 2, 6, 1, 5, 3, 7}},
		{3, "210..0..10..0..", []int64{0, 1, 2, 3, 4, 5, 6, 7}},
		{3, "012..2..21..1..", []int64{0, 4, 2, 6, 1, 3, 5, 7}},
		{3, "102..2..20..0..", []int64{0, 4, 1, 5, 2, 3, 6, 7}},
		{4, "0123..3..23..3..123..3..23..3..", []int64{0, 8, 4, 12, 2, 10, 6, 14, 1, 9, 5, 13, 3, 11, 7, 15}},
	} {
		rows, code := impl.RowsOfEnds(c.n, c.w)
		wantList(t, fmt.Sprintf("RowsOfEnds(%d, %q)", c.n, c.w), rows, code, c.rows)
		for end, row := range c.rows {
			got, code := impl.EndOfRow(c.n, c.w, row)
			wantNumber(t, fmt.Sprintf("EndOfRow(%d, %q, %d)", c.n, c.w, row), got, code, int64(end))
		}
	}
	straight, backwards := sameOrder(0, 1, 2, 3, 4), sameOrder(4, 3, 2, 1, 0)
	for _, c := range []struct {
		w         string
		row, want int64
	}{
		{straight, 0, 0}, {straight, 31, 31}, {straight, 1, 16}, {straight, 16, 1}, {straight, 2, 8}, {straight, 8, 2}, {straight, 4, 4}, {straight, 30, 15}, {straight, 15, 30}, {straight, 11, 26},
		{backwards, 0, 0}, {backwards, 31, 31}, {backwards, 1, 1}, {backwards, 16, 16}, {backwards, 19, 19},
	} {
		got, code := impl.EndOfRow(5, c.w, c.row)
		wantNumber(t, fmt.Sprintf("EndOfRow(5, %q, %d)", c.w, c.row), got, code, c.want)
	}
	rows, code := impl.RowsOfEnds(5, backwards)
	want := []int64{}
	for row := range int64(32) {
		want = append(want, row)
	}
	wantList(t, "RowsOfEnds of the inputs backwards", rows, code, want)
}

func TestEndOfRowErrors(t *testing.T) {
	for _, x := range fewSelectors() {
		last := int64(1)<<x.n - 1
		for _, row := range append([]int64{last + 1, last + 2, 2*last + 1}, farBeyond(31)...) {
			if got, code := impl.EndOfRow(x.n, x.w, row); got != 0 || code != impl.ErrRange {
				t.Errorf("EndOfRow(%d, %q, %d) = %d, %d, want 0, ErrRange", x.n, x.w, row, got, code)
			}
		}
	}
}

func TestSelectorLoads(t *testing.T) {
	for _, x := range sampleSelectors() {
		loads, code := impl.SelectorLoads(x.n, x.w)
		wantList(t, fmt.Sprintf("SelectorLoads(%d, %q)", x.n, x.w), loads, code, x.loads())
		sum := int64(0)
		for _, load := range loads {
			sum += load
		}
		if sum != 1<<x.n-1 {
			t.Errorf("the loads of %q add up to %d", x.w, sum)
		}
	}
	for _, c := range []struct {
		n    int64
		w    string
		want []int64
	}{
		{1, "0..", []int64{1}}, {2, "01..1..", []int64{1, 2}}, {2, "10..0..", []int64{2, 1}},
		{3, "012..2..12..2..", []int64{1, 2, 4}}, {3, "210..0..10..0..", []int64{4, 2, 1}},
		{4, sameOrder(0, 1, 2, 3), []int64{1, 2, 4, 8}}, {5, sameOrder(0, 1, 2, 3, 4), []int64{1, 2, 4, 8, 16}}, {5, sameOrder(4, 2, 0, 3, 1), []int64{4, 16, 2, 8, 1}},
		// Loads as flat as can be.
		{3, "012..2..21..1..", []int64{1, 3, 3}}, {3, "021..1..12..2..", []int64{1, 3, 3}}, {3, "201..1..10..0..", []int64{3, 3, 1}},
		{4, "0123..3..32..2..213..3..31..1..", []int64{1, 4, 4, 6}}, {4, "0123..3..32..2..321..1..12..2..", []int64{1, 4, 6, 4}}, {4, "0123..3..32..2..231..1..13..3..", []int64{1, 4, 4, 6}}, {4, "0123..3..23..3..321..1..21..1..", []int64{1, 5, 4, 5}},
	} {
		got, code := impl.SelectorLoads(c.n, c.w)
		wantList(t, fmt.Sprintf("SelectorLoads(%d, %q)", c.n, c.w), got, code, c.want)
	}
}

// wantSelector fails unless the selector with loads is as wanted, or ErrNotFound if that is no text.
func wantSelector(t *testing.T, loads []int64, want string) {
	t.Helper()
	wanted := int64(impl.ErrNone)
	if want == "" {
		wanted = impl.ErrNotFound
	}
	if got, code := impl.SelectorWithLoads(loads); got != want || code != wanted {
		t.Errorf("SelectorWithLoads(%v) = %q, %d, want %q, %d", loads, got, code, want, wanted)
	}
}

// listsOfLoads returns all lists of n numbers in 0..15.
func listsOfLoads(n int64) [][]int64 {
	lists := [][]int64{{}}
	for range n {
		var longer [][]int64
		for _, list := range lists {
			for load := range int64(16) {
				longer = append(longer, append(slices.Clone(list), load))
			}
		}
		lists = longer
	}
	return lists
}

func TestSelectorWithLoads(t *testing.T) {
	kinds := map[string]int{}
	for n := int64(1); n <= 4; n++ {
		found := map[string][]string{}
		for _, x := range selectorsKnown(n, allSelectors(n)) {
			key := fmt.Sprint(x.loads())
			found[key] = append(found[key], x.w)
		}
		for at, loads := range listsOfLoads(n) {
			sum := int64(0)
			for _, load := range loads {
				sum += load
			}
			same := found[fmt.Sprint(loads)]
			want := ""
			switch {
			case len(same) > 0:
				want = slices.Min(same)
				kinds[fmt.Sprintf("%d inputs", n)]++
				if len(same) > 1 {
					kinds["several"]++
				}
			case sum == 1<<n-1:
				kinds["none, though the sum is right"]++
			case n == 4 && at%41 != 0:
				continue
			default:
				kinds["another sum"]++
			}
			wantSelector(t, loads, want)
		}
	}
	wantKinds(t, kinds, "4 inputs", "several", "none, though the sum is right", "another sum")
	if kinds["1 inputs"] != 1 || kinds["2 inputs"] != 2 || kinds["3 inputs"] != 9 {
		t.Errorf("numbers of lists with selectors: %v", kinds)
	}
}

func TestSelectorWithLoadsByHand(t *testing.T) {
	for _, c := range []struct {
		loads []int64
		want  string
	}{
		{[]int64{1}, "0.."}, {[]int64{0}, ""}, {[]int64{2}, ""}, {[]int64{15}, ""},
		{[]int64{1, 2}, "01..1.."}, {[]int64{2, 1}, "10..0.."}, {[]int64{0, 3}, ""}, {[]int64{3, 0}, ""}, {[]int64{3, 3}, ""}, {[]int64{1, 1}, ""}, {[]int64{0, 0}, ""}, {[]int64{15, 15}, ""}, {[]int64{0, 15}, ""},
		{[]int64{1, 2, 4}, "012..2..12..2.."}, {[]int64{1, 4, 2}, "021..1..21..1.."}, {[]int64{4, 2, 1}, "210..0..10..0.."},
		// The lexicographically least one of two: "021..1..12..2.." has these loads, too.
		{[]int64{1, 3, 3}, "012..2..21..1.."}, {[]int64{3, 1, 3}, "102..2..20..0.."}, {[]int64{3, 3, 1}, "201..1..10..0.."},
		// The sum is right, but no selector has them: each input is told once on each way.
		{[]int64{2, 2, 3}, ""}, {[]int64{0, 3, 4}, ""}, {[]int64{1, 1, 5}, ""}, {[]int64{7, 0, 0}, ""}, {[]int64{1, 3, 4}, ""}, {[]int64{1, 2, 3}, ""},
		{[]int64{1, 2, 4, 8}, "0123..3..23..3..123..3..23..3.."}, {[]int64{8, 4, 2, 1}, sameOrder(3, 2, 1, 0)},
		{[]int64{0, 0, 0, 15}, ""}, {[]int64{15, 0, 0, 0}, ""}, {[]int64{0, 0, 0, 0}, ""}, {[]int64{15, 15, 15, 15}, ""}, {[]int64{0, 15, 0, 0}, ""}, {[]int64{4, 4, 4, 3}, ""}, {[]int64{1, 2, 6, 6}, "0123..3..23..3..132..2..32..2.."},
	} {
		wantSelector(t, c.loads, c.want)
	}
}

func TestSelectorWithLoadsErrors(t *testing.T) {
	lists := [][]int64{nil, {}, {0, 0, 0, 0, 0}, {1, 2, 4, 8, 16}, {1, 2, 4, 8, 15}, {16}, {-1}, {1, 16}, {16, 1}, {2, 1, -1}, {1, 2, 4, 16}, {1, 2, 4, -8}, {16, 2, 4, 8}, {-1, 4, 4, 8}, {1, 2, 4, 8, 0}, {16, 0, -1, 0}, make([]int64, 1<<16)}
	for _, good := range [][]int64{{1}, {1, 2}, {1, 3, 3}, {1, 4, 5, 5}} {
		for place := range good {
			for _, far := range farBeyond(15) {
				list := slices.Clone(good)
				list[place] = far
				lists = append(lists, list)
			}
		}
	}
	// Numbers that would be good if just some of their digits were looked at.
	lists = append(lists, []int64{1 + 1<<4}, []int64{1 + 1<<32}, []int64{math.MinInt64 + 1}, []int64{1 << 62, -1 << 62, 7})
	for _, loads := range lists {
		if got, code := impl.SelectorWithLoads(loads); got != "" || code != impl.ErrRange {
			t.Errorf("SelectorWithLoads of %d numbers, %.200v = %q, %d, want no text, ErrRange", len(loads), fmt.Sprint(loads), got, code)
		}
	}
}

func TestCountSelectors(t *testing.T) {
	for n, want := range map[int64]int64{1: 1, 2: 2, 3: 12, 4: 576, 5: 1658880} {
		got, code := impl.CountSelectors(n)
		wantNumber(t, fmt.Sprintf("CountSelectors(%d)", n), got, code, want)
		if n <= 4 && want != int64(len(allSelectors(n))) {
			t.Errorf("%d selectors for %d inputs are found", len(allSelectors(n)), n)
		}
	}
	for _, n := range append([]int64{0, 6, 7}, farNumbers...) {
		if got, code := impl.CountSelectors(n); got != 0 || code != impl.ErrRange {
			t.Errorf("CountSelectors(%d) = %d, %d, want 0, ErrRange", n, got, code)
		}
	}
}

func TestFlattestLoads(t *testing.T) {
	for n, want := range map[int64][]int64{1: {1}, 2: {2, 1}, 3: {3, 3, 1}, 4: {5, 5, 4, 1}} {
		got, code := impl.FlattestLoads(n)
		wantList(t, fmt.Sprintf("FlattestLoads(%d)", n), got, code, want)
		var all [][]int64
		for _, x := range selectorsKnown(n, allSelectors(n)) {
			all = append(all, x.flat())
		}
		if least := slices.MinFunc(all, slices.Compare); !slices.Equal(least, want) {
			t.Errorf("for %d inputs %v is found", n, least)
		}
	}
	for _, n := range append([]int64{0, 5, 6}, farNumbers...) {
		got, code := impl.FlattestLoads(n)
		wantListError(t, fmt.Sprintf("FlattestLoads(%d)", n), got, code, impl.ErrRange)
	}
}

// tablesToGo returns tables of n inputs: all for 1 to 3 inputs, and otherwise those with 0 or 1 in all
// rows, with one row, those in which an input has a value, and others from a fixed sequence, of which
// many have few rows with 1.
func tablesToGo(n int64) []impl.Table {
	rows := int64(1) << n
	last := int64(1)<<rows - 1
	var list []impl.Table
	if n <= 3 {
		for values := range last + 1 {
			list = append(list, impl.Table{Inputs: n, Values: values})
		}
		return list
	}
	list = append(list, impl.Table{Inputs: n}, impl.Table{Inputs: n, Values: last})
	for row := range rows {
		list = append(list, impl.Table{Inputs: n, Values: 1 << row})
	}
	for input := range n {
		for value := range int64(2) {
			list = append(list, tableWith(n, func(row []int64) int64 { return 1 - (row[input] ^ value) }))
		}
	}
	source := rand.New(rand.NewSource(30 + n))
	for at := range 120 {
		few := int64(0)
		for range 1 + at%8 {
			few |= 1 << source.Int63n(rows)
		}
		list = append(list, impl.Table{Inputs: n, Values: few}, impl.Table{Inputs: n, Values: source.Int63() & last})
	}
	return list
}

func TestContactsFor(t *testing.T) {
	kinds := map[string]int{}
	for at, x := range sampleSelectors() {
		for from, y := range tablesToGo(x.n) {
			if from > 1 && x.n > 3 && (at+from)%4 != 0 {
				continue
			}
			rows := rowsWithOne(y)
			want := x.contactsFor(rows)
			got, code := impl.ContactsFor(x.n, x.w, rows)
			wantNumber(t, fmt.Sprintf("ContactsFor(%d, %q, %v)", x.n, x.w, rows), got, code, want)
			switch {
			case len(rows) == 0 && want == 0:
				kinds["no row"]++
			case len(rows) == 1 && want == x.n:
				kinds["one row"]++
			case len(rows) == 1<<x.n && want == 1<<(x.n+1)-2:
				kinds["all rows"]++
			case !x.ways[1].comesOf(rows) || !x.ways[len(x.ways)/2+1].comesOf(rows):
				kinds["on one side only"]++
			case want < 1<<(x.n+1)-2 && len(rows) > 1:
				kinds["some rows"]++
			default:
				t.Errorf("%q has %d contacts for the rows %v", x.w, want, rows)
			}
		}
	}
	wantKinds(t, kinds, "no row", "one row", "all rows", "on one side only", "some rows")
}

func TestContactsForByHand(t *testing.T) {
	for _, c := range []struct {
		n    int64
		w    string
		rows []int64
		want int64
	}{
		{1, "0..", nil, 0}, {1, "0..", []int64{0}, 1}, {1, "0..", []int64{1}, 1}, {1, "0..", []int64{0, 1}, 2},
		{2, "01..1..", nil, 0}, {2, "01..1..", []int64{}, 0}, {2, "01..1..", []int64{3}, 2}, {2, "01..1..", []int64{1, 2}, 4}, {2, "01..1..", []int64{0, 1, 2, 3}, 6}, {2, "01..1..", []int64{0, 1, 2}, 5},
		// The rows 1 and 3 go on by the make contact of the first digit, the rows 2 and 3 by both.
		{2, "01..1..", []int64{1, 3}, 3}, {2, "01..1..", []int64{0, 2}, 3}, {2, "01..1..", []int64{2, 3}, 4},
		{2, "10..0..", []int64{1, 3}, 4}, {2, "10..0..", []int64{2, 3}, 3},
		{3, "012..2..21..1..", []int64{1, 3, 5, 7}, 7}, {3, "012..2..21..1..", []int64{1, 3}, 4}, {3, "012..2..21..1..", []int64{1, 5}, 5}, {3, "012..2..12..2..", []int64{1, 5}, 4}, {3, "012..2..12..2..", []int64{1, 3}, 5},
		{5, sameOrder(0, 1, 2, 3, 4), []int64{31}, 5}, {5, sameOrder(0, 1, 2, 3, 4), []int64{15, 31}, 6}, {5, sameOrder(0, 1, 2, 3, 4), []int64{30, 31}, 10}, {5, sameOrder(4, 3, 2, 1, 0), []int64{30, 31}, 6},
	} {
		got, code := impl.ContactsFor(c.n, c.w, c.rows)
		wantNumber(t, fmt.Sprintf("ContactsFor(%d, %q, %v)", c.n, c.w, c.rows), got, code, c.want)
	}
}

func TestContactsForErrors(t *testing.T) {
	for _, x := range fewSelectors() {
		last := int64(1)<<x.n - 1
		lists := [][]int64{{last + 1}, {0, last + 1}, {0, 0}, {last, last}, {1, 0}, {last, 0}, {last, last + 1}, {0, 1, 1}, {0, last, 0}, {-1}, {-1, 0}, {0, -1}, make([]int64, 1000)}
		for _, far := range farBeyond(31) {
			lists = append(lists, []int64{far}, []int64{0, far}, []int64{far, last})
		}
		for _, rows := range lists {
			if got, code := impl.ContactsFor(x.n, x.w, rows); got != 0 || code != impl.ErrRange {
				t.Errorf("ContactsFor(%d, %q, %.100v) = %d, %d, want 0, ErrRange", x.n, x.w, rows, got, code)
			}
		}
	}
}

// wantNetworkOfSelector fails unless the network of a selector and a table is as told, or ErrLimit if
// that is too great, and counts the kind of network.
func wantNetworkOfSelector(t *testing.T, kinds map[string]int, x knownSelector, y impl.Table) {
	t.Helper()
	want := x.network(rowsWithOne(y))
	call := fmt.Sprintf("NetworkOfSelector(%q, %v)", x.w, y)
	got, code := impl.NetworkOfSelector(x.w, y)
	points, contacts := want.Points, len(want.Contacts)
	kinds[fmt.Sprintf("points %v %v, contacts %v %v", points > 8, points == 8, contacts > 12, contacts == 12)]++
	if points == 9 && contacts <= 12 {
		kinds["one point more"]++
	}
	if points <= 8 && contacts == 13 {
		kinds["one contact more"]++
	}
	if points > 8 || contacts > 12 {
		wantNetworkError(t, call, got, code, impl.ErrLimit)
		return
	}
	wantNetwork(t, call, got, code, want)
	if !impl.IsNetwork(got) {
		t.Errorf("%s = %v is no network", call, got)
	}
}

func TestNetworkOfSelector(t *testing.T) {
	kinds := map[string]int{}
	for at, x := range sampleSelectors() {
		for from, y := range tablesToGo(x.n) {
			if x.n <= 3 || (at+from)%4 == 0 {
				wantNetworkOfSelector(t, kinds, x, y)
			}
		}
	}
	wantKinds(t, kinds, "points false false, contacts false false", "points false true, contacts false true", "points false true, contacts false false",
		"points true false, contacts true false", "points true false, contacts false false", "points true false, contacts false true", "points false true, contacts true false", "one point more", "one contact more")
}

func TestNetworkOfSelectorByHand(t *testing.T) {
	for _, c := range []struct{ w, table, want string }{
		// The points are there though no contact is.
		{"0..", "1:00", "2:"}, {"01..1..", "2:0000", "2:"}, {"012..2..21..1..", "3:00000000", "2:"}, {sameOrder(0, 1, 2, 3, 4), "5:" + strings.Repeat("0", 32), "2:"},
		{"0..", "1:01", "2:01a"}, {"0..", "1:10", "2:01A"}, {"0..", "1:11", "2:01a,01A"},
		{"01..1..", "2:1000", "3:02A,12B"}, {"01..1..", "2:0100", "3:02a,12B"}, {"01..1..", "2:0010", "3:02A,12b"}, {"01..1..", "2:0001", "3:02a,12b"},
		{"01..1..", "2:1010", "3:02A,12b,12B"}, {"01..1..", "2:0101", "3:02a,12b,12B"}, {"01..1..", "2:0110", "4:02A,03a,12b,13B"}, {"01..1..", "2:1001", "4:02A,03a,12B,13b"},
		{"01..1..", "2:0111", "4:02A,03a,12b,13b,13B"}, {"01..1..", "2:1111", "4:02A,03a,12b,12B,13b,13B"},
		{"10..0..", "2:0110", "4:02B,03b,12a,13A"}, {"10..0..", "2:1000", "3:02B,12A"}, {"10..0..", "2:0101", "4:02B,03b,12a,13a"}, {"10..0..", "2:1111", "4:02B,03b,12a,12A,13a,13A"},
		// The row 7 alone, and all rows with the input 0, on ways with other orders.
		{"012..2..21..1..", "3:00000001", "4:02a,13b,23c"}, {"012..2..12..2..", "3:00000001", "4:02a,13c,23b"},
		{"012..2..21..1..", "3:01010101", "5:02a,13b,13B,14b,14B,23C,24c"}, {"012..2..12..2..", "3:01010101", "5:02a,13c,13C,14c,14C,23B,24b"},
		// Eight points and twelve contacts.
		{"012..2..21..1..", "3:11111100", "8:02A,05a,13c,13C,14C,16b,16B,17B,23B,24b,56C,57c"},
		{"0123..3..23..3..123..3..23..3..", "4:" + strings.Repeat("0", 15) + "1", "5:02a,14d,23b,34c"},
		{sameOrder(0, 1, 2, 3, 4), "5:" + strings.Repeat("0", 31) + "1", "6:02a,15e,23b,34c,45d"}, {sameOrder(4, 3, 2, 1, 0), "5:1" + strings.Repeat("0", 31), "6:02E,15A,23D,34C,45B"},
	} {
		x, code := impl.NetworkOfSelector(c.w, tableOfText(c.table))
		if got := wordsOfNetwork(x); got != c.want || code != impl.ErrNone {
			t.Errorf("NetworkOfSelector(%q, %s) = %q, %d, want %q, 0", c.w, c.table, got, code, c.want)
		}
	}
	for _, c := range []struct{ w, table string }{
		// Eight points with thirteen contacts, and nine points with ten contacts.
		{"012..2..21..1..", "3:11111110"}, {"012..2..21..1..", "3:01111111"}, {"012..2..21..1..", "3:11111111"}, {sameOrder(0, 1, 2, 3), "4:1100100000000000"},
		{sameOrder(0, 1, 2, 3), "4:0110100110010110"}, {sameOrder(0, 1, 2, 3), "4:" + strings.Repeat("1", 16)}, {sameOrder(0, 1, 2, 3, 4), "5:" + strings.Repeat("1", 32)}, {sameOrder(0, 1, 2, 3, 4), "5:1" + strings.Repeat("0", 30) + "1"},
	} {
		x, code := impl.NetworkOfSelector(c.w, tableOfText(c.table))
		wantNetworkError(t, fmt.Sprintf("NetworkOfSelector(%q, %s)", c.w, c.table), x, code, impl.ErrLimit)
	}
}

// nodesWith returns the number of the nodes of the diagram of a table by an order: for all values of
// the first inputs of the order, the texts of the values of what is left are told apart, if the next
// input makes a difference in them.
func nodesWith(x impl.Table, order []int64) int64 {
	values := valuesOf(x)
	nodes := 0
	for k := range order {
		texts := map[string]bool{}
		for told := range int64(1) << k {
			next := [2]string{}
			for left := range int64(1) << (len(order) - k) {
				row := make([]int64, len(order))
				for at, digit := range digitsOf(told+left<<k, x.Inputs) {
					row[order[at]] = digit
				}
				next[left%2] += fmt.Sprint(values[numberOf(row)])
			}
			if next[0] != next[1] {
				texts[next[0]+next[1]] = true
			}
		}
		nodes += len(texts)
	}
	return int64(nodes)
}

// bestWith returns the least of the orders with the fewest nodes, their number, and how many such
// orders there are, and how many numbers of nodes.
func bestWith(x impl.Table) (best []int64, fewest int64, orders int, numbers int) {
	byNumber := map[int64][][]int64{}
	for _, order := range allOrders(x.Inputs) {
		nodes := nodesWith(x, order)
		byNumber[nodes] = append(byNumber[nodes], order)
	}
	fewest = math.MaxInt64
	for nodes := range byNumber {
		fewest = min(fewest, nodes)
	}
	list := byNumber[fewest]
	return slices.MinFunc(list, slices.Compare), fewest, len(list), len(byNumber)
}

// tablesWithDiagrams returns tables of all numbers of inputs, with such among them as do not depend on
// some inputs, and such as are put together of pairs of inputs.
func tablesWithDiagrams() []impl.Table {
	list := sampleTables()
	for _, x := range []impl.Table{tableOfText("2:0110"), tableOfText("2:0001"), tableOfText("3:00010111"), tableOfText("3:01010011"), tableOfText("3:00011110")} {
		values := valuesOf(x)
		for n := int64(4); n <= 5; n++ {
			for _, order := range allOrders(n) {
				list = append(list, tableWith(n, func(row []int64) int64 {
					few := []int64{}
					for at := range x.Inputs {
						few = append(few, row[order[at]])
					}
					return values[numberOf(few)]
				}))
			}
		}
	}
	for _, p := range allOrders(4) {
		list = append(list, tableWith(4, func(row []int64) int64 { return row[p[0]]&row[p[1]] | row[p[2]]&row[p[3]] }))
		list = append(list, tableWith(5, func(row []int64) int64 { return (row[p[0]] ^ row[4]) & (row[p[1]] | row[p[2]]&row[p[3]]) }))
	}
	slices.SortFunc(list, func(x impl.Table, y impl.Table) int {
		return slices.Compare([]int64{x.Inputs, x.Values}, []int64{y.Inputs, y.Values})
	})
	return slices.Compact(list)
}

func TestCountNodes(t *testing.T) {
	kinds := map[string]int{}
	for at, x := range tablesWithDiagrams() {
		mattering, _ := impl.MatteringInputs(x)
		for from, order := range allOrders(x.Inputs) {
			if x.Inputs == 5 && (at+from)%5 != 0 {
				continue
			}
			want := nodesWith(x, order)
			got, code := impl.CountNodes(x, order)
			wantNumber(t, fmt.Sprintf("CountNodes(%v, %v)", x, order), got, code, want)
			switch {
			case want == 0:
				kinds["no nodes"]++
			case want == int64(len(mattering)):
				kinds["a node for each input that matters"]++
			case want < int64(len(mattering)):
				t.Errorf("CountNodes(%v, %v) = %d, but %d inputs matter", x, order, want, len(mattering))
			case int64(len(mattering)) < x.Inputs:
				kinds["more nodes, though some inputs do not matter"]++
			default:
				kinds["more nodes, and all inputs matter"]++
			}
		}
	}
	wantKinds(t, kinds, "no nodes", "a node for each input that matters", "more nodes, though some inputs do not matter", "more nodes, and all inputs matter")
}

// parityOf returns the table of n inputs with 1 where the number of inputs with 1 is odd.
func parityOf(n int64) impl.Table {
	return tableWith(n, func(row []int64) int64 { return onesIn(row) % 2 })
}

// pairsOf returns the table of n inputs with 1 where both inputs of a pair or of another pair are 1.
func pairsOf(n int64, pair []int64, other []int64) impl.Table {
	return tableWith(n, func(row []int64) int64 { return row[pair[0]]&row[pair[1]] | row[other[0]]&row[other[1]] })
}

// choiceOf returns the table of n inputs with the value of one input if another one is 1, and of a
// third one if it is 0.
func choiceOf(n int64, chooser int64, one int64, zero int64) impl.Table {
	return tableWith(n, func(row []int64) int64 {
		if row[chooser] == 1 {
			return row[one]
		}
		return row[zero]
	})
}

func TestCountNodesByHand(t *testing.T) {
	for _, c := range []struct {
		x     impl.Table
		order []int64
		want  int64
	}{
		{tableOfText("1:00"), []int64{0}, 0}, {tableOfText("1:11"), []int64{0}, 0}, {tableOfText("1:01"), []int64{0}, 1}, {tableOfText("1:10"), []int64{0}, 1},
		{tableOfText("2:0000"), []int64{0, 1}, 0}, {tableOfText("2:1111"), []int64{1, 0}, 0}, {impl.Table{Inputs: 5}, []int64{4, 0, 3, 1, 2}, 0}, {impl.Table{Inputs: 5, Values: 1<<32 - 1}, []int64{0, 1, 2, 3, 4}, 0},
		// One input that matters, at any place of the order.
		{tableOfText("2:0101"), []int64{0, 1}, 1}, {tableOfText("2:0101"), []int64{1, 0}, 1}, {tableOfText("2:1100"), []int64{0, 1}, 1}, {tableWith(5, func(row []int64) int64 { return row[2] }), []int64{0, 1, 2, 3, 4}, 1}, {tableWith(5, func(row []int64) int64 { return 1 - row[4] }), []int64{0, 1, 2, 3, 4}, 1},
		// Both, one of two, not alike, the most of three.
		{tableOfText("2:0001"), []int64{0, 1}, 2}, {tableOfText("2:0111"), []int64{1, 0}, 2}, {tableOfText("2:0110"), []int64{0, 1}, 3}, {tableOfText("3:00010111"), []int64{0, 1, 2}, 4}, {tableOfText("3:00010111"), []int64{2, 0, 1}, 4},
		// A parity, and one of just three inputs.
		{parityOf(1), []int64{0}, 1}, {parityOf(3), []int64{2, 1, 0}, 5}, {parityOf(4), []int64{0, 1, 2, 3}, 7}, {parityOf(5), []int64{3, 1, 4, 0, 2}, 9}, {tableWith(5, func(row []int64) int64 { return row[0] ^ row[2] ^ row[4] }), []int64{0, 1, 2, 3, 4}, 5},
		// One row.
		{impl.Table{Inputs: 4, Values: 1 << 5}, []int64{0, 1, 2, 3}, 4}, {impl.Table{Inputs: 5, Values: 1 << 31}, []int64{4, 3, 2, 1, 0}, 5}, {impl.Table{Inputs: 5, Values: 1<<32 - 2}, []int64{1, 0, 2, 4, 3}, 5},
		// Other numbers by other orders.
		{pairsOf(4, []int64{0, 1}, []int64{2, 3}), []int64{0, 1, 2, 3}, 4}, {pairsOf(4, []int64{0, 1}, []int64{2, 3}), []int64{0, 2, 1, 3}, 6}, {pairsOf(4, []int64{0, 1}, []int64{2, 3}), []int64{3, 2, 0, 1}, 4}, {pairsOf(4, []int64{0, 1}, []int64{2, 3}), []int64{2, 0, 1, 3}, 6}, {pairsOf(4, []int64{0, 1}, []int64{2, 3}), []int64{0, 2, 3, 1}, 6},
		{choiceOf(3, 0, 1, 2), []int64{0, 1, 2}, 3}, {choiceOf(3, 0, 1, 2), []int64{1, 0, 2}, 4}, {choiceOf(3, 0, 1, 2), []int64{1, 2, 0}, 5}, {choiceOf(3, 2, 0, 1), []int64{0, 1, 2}, 5}, {choiceOf(3, 2, 0, 1), []int64{0, 2, 1}, 4},
	} {
		got, code := impl.CountNodes(c.x, c.order)
		wantNumber(t, fmt.Sprintf("CountNodes(%v, %v)", c.x, c.order), got, code, c.want)
	}
}

// wantBestOrder fails unless the best order of a table and its number of nodes are as wanted.
func wantBestOrder(t *testing.T, x impl.Table, order []int64, nodes int64) {
	t.Helper()
	got, count, code := impl.BestOrder(x)
	wantList(t, fmt.Sprintf("BestOrder(%v)", x), got, code, order)
	wantNumber(t, fmt.Sprintf("BestOrder(%v) with its nodes", x), count, code, nodes)
}

func TestBestOrder(t *testing.T) {
	kinds := map[string]int{}
	for at, x := range tablesWithDiagrams() {
		if x.Inputs == 5 && at%3 != 0 {
			continue
		}
		order, fewest, orders, numbers := bestWith(x)
		wantBestOrder(t, x, order, fewest)
		switch {
		case numbers == 1:
			kinds["all orders are best"]++
		case orders > 1:
			kinds["several orders are best"]++
		default:
			kinds["one order is best"]++
		}
		if !slices.IsSorted(order) {
			kinds["inputs out of order"]++
		}
	}
	wantKinds(t, kinds, "all orders are best", "several orders are best", "inputs out of order")
	if kinds["one order is best"] == 0 {
		t.Errorf("no table has just one best order")
	}
}

func TestBestOrderByHand(t *testing.T) {
	inputs := []int64{0, 1, 2, 3, 4}
	for n := int64(1); n <= 5; n++ {
		wantBestOrder(t, impl.Table{Inputs: n}, inputs[:n], 0)
		wantBestOrder(t, impl.Table{Inputs: n, Values: 1<<(1<<n) - 1}, inputs[:n], 0)
		wantBestOrder(t, parityOf(n), inputs[:n], 2*n-1)
		wantBestOrder(t, tableWith(n, func(row []int64) int64 { return row[n-1] }), inputs[:n], 1)
	}
	wantBestOrder(t, pairsOf(4, []int64{0, 1}, []int64{2, 3}), []int64{0, 1, 2, 3}, 4)
	wantBestOrder(t, pairsOf(4, []int64{0, 2}, []int64{1, 3}), []int64{0, 2, 1, 3}, 4)
	wantBestOrder(t, pairsOf(4, []int64{1, 2}, []int64{0, 3}), []int64{0, 3, 1, 2}, 4)
	// The input 2 does not matter, so that it can stand at the first place at which it is least.
	wantBestOrder(t, pairsOf(5, []int64{0, 3}, []int64{1, 4}), []int64{0, 2, 3, 1, 4}, 4)
	// The input that chooses comes first, and the others as they are.
	wantBestOrder(t, choiceOf(3, 0, 1, 2), []int64{0, 1, 2}, 3)
	wantBestOrder(t, choiceOf(3, 2, 0, 1), []int64{2, 0, 1}, 3)
	wantBestOrder(t, choiceOf(3, 2, 1, 0), []int64{2, 0, 1}, 3)
	wantBestOrder(t, choiceOf(5, 4, 0, 2), []int64{1, 3, 4, 0, 2}, 3)
}

// TestBestOrderOnceMore asks many times, as orders are looked at side by side.
func TestBestOrderOnceMore(t *testing.T) {
	for _, x := range []impl.Table{{Inputs: 5, Values: 0x1234ABCD}, choiceOf(5, 4, 0, 2), parityOf(4)} {
		order, fewest, _, _ := bestWith(x)
		for range 50 {
			wantBestOrder(t, x, order, fewest)
		}
	}
}

func TestDiagramErrors(t *testing.T) {
	for _, x := range noTables {
		if order, nodes, code := impl.BestOrder(x); len(order) != 0 || nodes != 0 || code != impl.ErrInvalid {
			t.Errorf("BestOrder(%v) = %v, %d, %d, want no order, 0, ErrInvalid", x, order, nodes, code)
		}
		for _, order := range [][]int64{nil, {0}, {0, 1}, {1, 0, 2}, {0, 1, 2, 3, 4}, {0, 0}, {-1}, {math.MaxInt64}, {5, 4, 3, 2, 1, 0}} {
			if got, code := impl.CountNodes(x, order); got != 0 || code != impl.ErrInvalid {
				t.Errorf("CountNodes(%v, %v) = %d, %d, want 0, ErrInvalid", x, order, got, code)
			}
		}
	}
	for n := int64(1); n <= 5; n++ {
		for _, order := range badOrders(n) {
			for _, x := range []impl.Table{{Inputs: n}, parityOf(n)} {
				if got, code := impl.CountNodes(x, order); got != 0 || code != impl.ErrRange {
					t.Errorf("CountNodes(%v, %v) = %d, %d, want 0, ErrRange", x, order, got, code)
				}
			}
		}
	}
}

// selectorCalls are the functions that take a selector, with other arguments that are as told for 1
// input, each with a report whether its result is the zero value.
var selectorCalls = map[string]func(n int64, w string) (bool, int64){
	"RowsOfEnds": func(n int64, w string) (bool, int64) {
		rows, code := impl.RowsOfEnds(n, w)
		return len(rows) == 0, code
	},
	"EndOfRow": func(n int64, w string) (bool, int64) {
		end, code := impl.EndOfRow(n, w, 1)
		return end == 0, code
	},
	"EndOfRow of no row": func(n int64, w string) (bool, int64) {
		end, code := impl.EndOfRow(n, w, -1)
		return end == 0, code
	},
	"SelectorLoads": func(n int64, w string) (bool, int64) {
		loads, code := impl.SelectorLoads(n, w)
		return len(loads) == 0, code
	},
	"ContactsFor": func(n int64, w string) (bool, int64) {
		count, code := impl.ContactsFor(n, w, []int64{0, 1})
		return count == 0, code
	},
	"ContactsFor no rows": func(n int64, w string) (bool, int64) {
		count, code := impl.ContactsFor(n, w, nil)
		return count == 0, code
	},
	"ContactsFor wrong rows": func(n int64, w string) (bool, int64) {
		count, code := impl.ContactsFor(n, w, []int64{1, 0})
		return count == 0, code
	},
}

// badSelectors returns texts that are no selectors for n inputs, in 1..5.
func badSelectors(n int64) []string {
	list := []string{"", ".", "..", "...", "0", "0.", "0...", "5..", "-..", "a..", "0..0..", "00..0..", "01..0..", "01..1..1", strings.Repeat("0", 1000), strings.Repeat(".", 1000)}
	orders := [][]int64{{0}, {0, 1}, {1, 0}, {0, 2, 1}, {3, 1, 0, 2}, {4, 3, 2, 1, 0}, {0, 1, 2, 3, 4, 5}}
	for _, order := range orders {
		good := sameOrder(order...)
		list = append(list, good, good[1:], good[:len(good)-1], good+".", good+"0", good+good, "."+good, " "+good)
		for place := range good {
			for _, sign := range []string{"0", "1", "4", "5", ".", "x", ":"} {
				list = append(list, good[:place]+sign+good[place+1:])
			}
		}
	}
	return slices.DeleteFunc(list, func(w string) bool {
		_, isOne := waysTo(n, w)
		return isOne
	})
}

func TestErrorsOfTexts(t *testing.T) {
	for n := int64(1); n <= 5; n++ {
		for _, w := range badSelectors(n) {
			for name, run := range selectorCalls {
				if zero, code := run(n, w); !zero || code != impl.ErrRange {
					t.Errorf("%s with %d, %q: code %d, zero value: %v", name, n, w, code, zero)
				}
			}
			for _, x := range []impl.Table{{Inputs: n}, {Inputs: n, Values: 1}, {Inputs: n, Values: 1<<(1<<n) - 1}} {
				got, code := impl.NetworkOfSelector(w, x)
				wantNetworkError(t, fmt.Sprintf("NetworkOfSelector(%q, %v)", w, x), got, code, impl.ErrRange)
			}
		}
	}
	for _, n := range append([]int64{0, 6, 7}, farNumbers...) {
		for _, w := range []string{"", ".", "0..", "01..1..", sameOrder(0, 1, 2, 3, 4), sameOrder(0, 1, 2, 3, 4, 5)} {
			for name, run := range selectorCalls {
				if zero, code := run(n, w); !zero || code != impl.ErrRange {
					t.Errorf("%s with %d, %q: code %d, zero value: %v", name, n, w, code, zero)
				}
			}
		}
	}
	for _, x := range noTables {
		for _, w := range []string{"", ".", "0..", "01..1..", "012..2..21..1..", "00..0..", sameOrder(0, 1, 2, 3), sameOrder(0, 1, 2, 3, 4), sameOrder(0, 1, 2, 3, 4, 5)} {
			got, code := impl.NetworkOfSelector(w, x)
			wantNetworkError(t, fmt.Sprintf("NetworkOfSelector(%q, %v)", w, x), got, code, impl.ErrInvalid)
		}
	}
}

// TestTreeArgumentsStay gives lists with spare capacity behind them.
func TestTreeArgumentsStay(t *testing.T) {
	for _, loads := range [][]int64{{1}, {2, 1}, {3, 3, 1}, {4, 5, 1, 5}, {8, 4, 2, 1}, {3, 3}, {16, 1}} {
		given, unchanged := withSpare(loads)
		impl.SelectorWithLoads(given)
		if !unchanged() {
			t.Errorf("SelectorWithLoads changes %v, or what is behind it", loads)
		}
	}
	for _, rows := range [][]int64{{}, {0, 3, 6}, {0, 1, 2, 3, 4, 5, 6, 7}, {3, 1}} {
		given, unchanged := withSpare(rows)
		impl.ContactsFor(3, "012..2..21..1..", given)
		if !unchanged() {
			t.Errorf("ContactsFor changes %v, or what is behind it", rows)
		}
	}
	for _, order := range [][]int64{{3, 1, 2, 0}, {0, 1, 2, 3}, {3, 3, 1, 0}, {2, 1, 0}} {
		given, unchanged := withSpare(order)
		impl.CountNodes(parityOf(4), given)
		if !unchanged() {
			t.Errorf("CountNodes changes %v, or what is behind it", order)
		}
	}
}

// TestTreeResultsAreNew writes on results, and looks at what else is there, and asks again.
func TestTreeResultsAreNew(t *testing.T) {
	calls := map[string]func() [][]int64{
		"RowsOfEnds":    func() [][]int64 { list, _ := impl.RowsOfEnds(3, "012..2..21..1.."); return [][]int64{list} },
		"SelectorLoads": func() [][]int64 { list, _ := impl.SelectorLoads(3, "012..2..21..1.."); return [][]int64{list} },
		"FlattestLoads": func() [][]int64 { list, _ := impl.FlattestLoads(4); return [][]int64{list} },
		"BestOrder":     func() [][]int64 { list, _, _ := impl.BestOrder(choiceOf(4, 3, 0, 1)); return [][]int64{list} },
		"BestOrder of a constant table": func() [][]int64 {
			list, _, _ := impl.BestOrder(impl.Table{Inputs: 5})
			return [][]int64{list}
		},
		"NetworkOfSelector": func() [][]int64 {
			x, _ := impl.NetworkOfSelector("012..2..21..1..", tableOfText("3:11111100"))
			return x.Contacts
		},
	}
	for name, run := range calls {
		first := run()
		want := copyOfLists(first)
		wantApart(t, name, first)
		for i := range first {
			scribble(first[i])
			first[i] = nil
		}
		if again := run(); len(want) == 0 || !sameLists(again, want) {
			t.Errorf("%s once more: %v, want %v", name, again, want)
		}
	}
}

// TestPromise9 checks the ninth promise, and that loads add up to 2^n - 1, by the functions of the
// chapter alone.
func TestPromise9(t *testing.T) {
	kinds := map[string]int{}
	for _, x := range sampleSelectors() {
		rows, code := impl.RowsOfEnds(x.n, x.w)
		if len(rows) != 1<<x.n || code != impl.ErrNone {
			t.Fatalf("RowsOfEnds(%d, %q) = %v, %d", x.n, x.w, rows, code)
		}
		for end, row := range rows {
			got, code := impl.EndOfRow(x.n, x.w, row)
			wantNumber(t, fmt.Sprintf("EndOfRow(%d, %q, %d)", x.n, x.w, row), got, code, int64(end))
		}
		for row := range int64(1) << x.n {
			end, _ := impl.EndOfRow(x.n, x.w, row)
			if rows[end] != row {
				t.Errorf("the row %d leads in %q to the end %d, to which the row %d leads", row, x.w, end, rows[end])
			}
		}
		loads, code := impl.SelectorLoads(x.n, x.w)
		sum := int64(0)
		for _, load := range loads {
			sum += load
		}
		wantNumber(t, fmt.Sprintf("the sum of the loads of %q", x.w), sum, code, 1<<x.n-1)
		if x.n > 4 {
			continue
		}
		w, code := impl.SelectorWithLoads(loads)
		if code != impl.ErrNone || !impl.IsSelector(x.n, w) || w > x.w {
			t.Errorf("SelectorWithLoads(%v) = %q, %d, but %q has these loads", loads, w, code, x.w)
		}
		again, code := impl.SelectorLoads(x.n, w)
		wantList(t, fmt.Sprintf("the loads of %q", w), again, code, loads)
		if w != x.w {
			kinds["another selector is found"]++
		} else {
			kinds["the same selector is found"]++
		}
	}
	wantKinds(t, kinds, "another selector is found", "the same selector is found")
}

// TestFlattestLoadsAreLoads looks for a selector with the flattest loads, in each order of them.
func TestFlattestLoadsAreLoads(t *testing.T) {
	for n := int64(1); n <= 4; n++ {
		flattest, _ := impl.FlattestLoads(n)
		found := 0
		for _, order := range allOrders(n) {
			loads := []int64{}
			for _, i := range order {
				loads = append(loads, flattest[i])
			}
			w, code := impl.SelectorWithLoads(loads)
			got, _ := impl.SelectorLoads(n, w)
			if code == impl.ErrNone && slices.Equal(got, loads) {
				found++
			}
		}
		// Names of inputs can be exchanged, so that all orders are found or none is.
		if found != len(allOrders(n)) {
			t.Errorf("the flattest loads %v are found in %d orders", flattest, found)
		}
	}
}

// TestPromise17 checks the seventeenth promise by the functions of the chapters alone.
func TestPromise17(t *testing.T) {
	kinds := map[string]int{}
	for at, x := range sampleSelectors() {
		for from, y := range tablesToGo(x.n) {
			if x.n > 3 && (at+from)%4 != 0 {
				continue
			}
			network, code := impl.NetworkOfSelector(x.w, y)
			if code == impl.ErrLimit {
				kinds["beyond the limits"]++
				continue
			}
			between, code := impl.TableBetween(network, x.n, 0, 1)
			wantTable(t, fmt.Sprintf("the table between the ends of NetworkOfSelector(%q, %v)", x.w, y), between, code, y)
			rows, _ := impl.OnesOf(y)
			count, code := impl.ContactsFor(x.n, x.w, rows)
			wantNumber(t, fmt.Sprintf("ContactsFor(%d, %q, %v)", x.n, x.w, rows), count, code, int64(len(network.Contacts)))
			kinds[fmt.Sprintf("%d inputs", x.n)]++
		}
	}
	wantKinds(t, kinds, "2 inputs", "3 inputs", "4 inputs", "5 inputs", "beyond the limits")
}
