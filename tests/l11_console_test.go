package tests

import (
	"fmt"
	"math"
	"math/rand"
	"regexp"
	"slices"
	"strings"
	"testing"

	"loop.example/g01392/impl"
)

// withPart returns a desk with another part, told by the letter of the part and its text.
func withPart(d impl.Desk, letter string, text string) impl.Desk {
	tells := true
	switch letter {
	case "T":
		d.Table = tableOfText(text)
	case "N":
		d.Network, tells = textTellsNetwork(text)
	case "F":
		d.Formula, tells = text, isFormulaWith(text)
	case "W":
		d.Wiring, tells = textTellsWiring(text)
	default:
		tells = false
	}
	if !tells {
		panic("no part of a desk: " + letter + "=" + text)
	}
	return d
}

// deskOf returns the new desk with other parts, told by words such as T=1:01, N=2:, F=a and W=3:.
func deskOf(parts string) impl.Desk {
	var d impl.Desk
	for _, part := range strings.Fields("T=2:0001 N=3:02a,12b F=(ab) W=33:0-2,1-5,3-6,4-7 " + parts) {
		letter, text, _ := strings.Cut(part, "=")
		d = withPart(d, letter, text)
	}
	return d
}

// copyOfDesk returns the same desk with new memory.
func copyOfDesk(d impl.Desk) impl.Desk {
	d.Network.Contacts = copyOfLists(d.Network.Contacts)
	d.Wiring = copyOfWiring(d.Wiring)
	return d
}

// sameDesk reports whether two desks are equal.
func sameDesk(d impl.Desk, e impl.Desk) bool {
	return d.Table == e.Table && sameNetwork(d.Network, e.Network) && d.Formula == e.Formula && sameWiring(d.Wiring, e.Wiring)
}

// spareDesk returns the same desk with spare capacity behind all of its lists, and a function that
// reports whether all of it is as it was.
func spareDesk(d impl.Desk) (impl.Desk, func() bool) {
	wiring, unchanged := spareWiring(d.Wiring)
	contacts, stayed := spareLists(d.Network.Contacts)
	d.Wiring, d.Network.Contacts = wiring, contacts
	return d, func() bool { return unchanged() && stayed() }
}

// listsInDesk returns all lists of numbers in a desk.
func listsInDesk(d impl.Desk) [][]int64 {
	return slices.Concat(d.Network.Contacts, listsInWiring(d.Wiring))
}

// wantNewMemory fails if a desk shares memory between its parts, and writes on all of it, so that the
// caller can see what else has changed.
func wantNewMemory(t *testing.T, call string, d impl.Desk) {
	t.Helper()
	wantApart(t, call, listsInDesk(d))
	contacts := d.Network.Contacts[:cap(d.Network.Contacts)]
	for i := range contacts {
		scribble(contacts[i])
		contacts[i] = nil
	}
	if slices.ContainsFunc(d.Wiring.Wires, func(wire []int64) bool { return len(wire) != 2 }) {
		t.Errorf("%s: the wires share memory with the contacts", call)
	}
	scribble(d.Wiring.Switches)
	wires := d.Wiring.Wires[:cap(d.Wiring.Wires)]
	for i := range wires {
		scribble(wires[i])
		wires[i] = nil
	}
}

// deskPool has parts to make desks of, and texts to put into lines.
type deskPool struct {
	tables   []impl.Table
	networks []impl.Network
	formulas []string
	wirings  []impl.Wiring
}

// newDeskPool returns samples of the chapters, small ones and such as are beyond the limits of
// functions.
func newDeskPool() deskPool {
	pool := deskPool{tables: append(sampleTables(), tablesWithPatterns()...), networks: append(sampleNetworks(), bridge(), fullNetwork()), formulas: append(sampleFormulas(), flickeringByHand...), wirings: fewWirings()}
	for row := range int64(32) {
		// The patterns of a parity with one value turned are still too many.
		near := parityOf(5)
		near.Values ^= 1 << row
		pool.tables = append(pool.tables, slices.Repeat([]impl.Table{near}, 6)...)
	}
	expandable := formulasToExpand()
	for _, w := range expandable[len(expandable)-400:] {
		pool.formulas = append(pool.formulas, w)
		if _, code := expandedWith(w); code != impl.ErrNone {
			pool.formulas = append(pool.formulas, slices.Repeat([]string{w}, 6)...)
		}
	}
	for i, w := range smallFormulas() {
		if i%40 == 0 {
			pool.formulas = append(pool.formulas, w)
		}
	}
	source := rand.New(rand.NewSource(20))
	for _, signs := range allSwitches() {
		pool.wirings = append(pool.wirings, pairedWires(source, signs))
	}
	for k := int64(2); k <= 5; k++ {
		pool.wirings = append(pool.wirings, standardWith(k))
	}
	return pool
}

// oneOf returns one element of a list, from a sequence.
func oneOf[E any](source *rand.Rand, list []E) E {
	return list[source.Intn(len(list))]
}

// desk returns a desk of parts from a sequence.
func (pool deskPool) desk(source *rand.Rand) impl.Desk {
	return copyOfDesk(impl.Desk{Table: oneOf(source, pool.tables), Network: oneOf(source, pool.networks), Formula: oneOf(source, pool.formulas), Wiring: oneOf(source, pool.wirings)})
}

// text returns a text for a command that takes one, from a sequence, or for any other one.
func (pool deskPool) text(source *rand.Rand, command string) string {
	switch command {
	case "table":
		return textWith(oneOf(source, pool.tables))
	case "network":
		return wordsOfNetwork(oneOf(source, pool.networks))
	case "formula":
		return oneOf(source, pool.formulas)
	case "wiring":
		return textOfWiring(oneOf(source, pool.wirings))
	}
	return oneOf(source, []string{"", "x", "2:0001", "2:000", "3:02a,12b", "9:", "(ab)", "(a)", "3:0-1", "3:1-0", "0", "00"})
}

// desksByHand are desks at limits and with empty parts, the new desk among them.
func desksByHand() []impl.Desk {
	list := []impl.Desk{deskOf(""), deskOf("T=1:00 N=2: F=0 W=3:"), deskOf("T=1:11 N=8: F=1 W=44444:"), deskOf("T=5:" + strings.Repeat("1", 32) + " N=8:67E F=E W=3:0-1"), deskOf("T=3:00011011 N=4:02a,12b,23c F=[(ab)(Ac)]"), deskOf("T=4:0110100110010110 F=([ab][Ac])")}
	full := deskOf("T=5:01101001100101101001011001101001 F=" + atLimit + " W=33:" + strings.Repeat("0-1,", 15) + "0-1")
	full.Network = fullNetwork()
	nested := deskOf("F=" + nestedAtLimit)
	nested.Network, nested.Wiring = bridge(), standardWith(5)
	return append(list, full, nested)
}

// sampleDesks returns the desks by hand, and so many others from a fixed sequence.
func sampleDesks(count int) []impl.Desk {
	list, pool, source := desksByHand(), newDeskPool(), rand.New(rand.NewSource(16))
	for range count {
		list = append(list, pool.desk(source))
	}
	return list
}

// noDesks returns values of the type Desk that are no desks, because of one part, of two or of all.
func noDesks() []impl.Desk {
	list := []impl.Desk{{}, {Table: impl.Table{Inputs: 2, Values: 8}}, {Formula: "(ab)"}}
	kept := desksByHand()
	for i, table := range noTables {
		d := copyOfDesk(kept[i%len(kept)])
		d.Table = table
		list = append(list, d)
	}
	for i, network := range noNetworks {
		d := copyOfDesk(kept[i%len(kept)])
		d.Network = network
		list = append(list, d)
	}
	for i, w := range noFormulas {
		d := copyOfDesk(kept[i%len(kept)])
		d.Formula = w
		list = append(list, d)
	}
	for i, wiring := range noWirings() {
		d := copyOfDesk(kept[i%len(kept)])
		d.Wiring = wiring
		list = append(list, d)
		d.Table, d.Network, d.Formula = noTables[i%len(noTables)], noNetworks[i%len(noNetworks)], noFormulas[i%len(noFormulas)]
		list = append(list, d)
		d.Wiring = standardWith(3)
		list = append(list, d)
	}
	return list
}

// textOut returns what is put out for a part of a desk, or for a result.
func textOut(value any) string {
	var words []string
	switch x := value.(type) {
	case impl.Table:
		return textWith(x)
	case impl.Network:
		return wordsOfNetwork(x)
	case impl.Wiring:
		return textOfWiring(x)
	case bool:
		return map[bool]string{true: "yes", false: "no"}[x]
	case [][]int64:
		for _, list := range x {
			words = append(words, textOut(list))
		}
		return strings.Join(append(words, "none")[:max(1, len(words))], ";")
	case []int64:
		for _, number := range x {
			words = append(words, fmt.Sprint(number))
		}
		return textOut(words)
	case []string:
		return strings.Join(append(slices.Clone(x), "none")[:max(1, len(x))], " ")
	}
	return fmt.Sprint(value)
}

// knownLines has for each line of the document's table what it does to a desk, and what it puts out,
// unless the code is another than ErrNone. The words behind the command are a text or numbers.
var knownLines = map[string]func(d *impl.Desk, text string, numbers [2]int64) (any, int64){
	"table TEXT": toTable(func(d *impl.Desk, text string, n int64) (impl.Table, int64) { return impl.ParseTable(text) }),
	"opposite":   toTable(func(d *impl.Desk, text string, n int64) (impl.Table, int64) { return impl.OppositeOf(d.Table) }),
	"dual":       toTable(func(d *impl.Desk, text string, n int64) (impl.Table, int64) { return impl.DualOf(d.Table) }),
	"turn N":     toTable(func(d *impl.Desk, text string, n int64) (impl.Table, int64) { return impl.TurnInput(d.Table, n) }),
	"between N": toTable(func(d *impl.Desk, text string, n int64) (impl.Table, int64) {
		return impl.TableBetween(d.Network, n, 0, 1)
	}),
	"values N":     toTable(func(d *impl.Desk, text string, n int64) (impl.Table, int64) { return impl.TableOfFormula(d.Formula, n) }),
	"lamps":        toTable(func(d *impl.Desk, text string, n int64) (impl.Table, int64) { return impl.TableOfWiring(d.Wiring) }),
	"network TEXT": toNetwork(func(d *impl.Desk, text string) (impl.Network, int64) { return impl.ParseNetwork(text) }),
	"trim":         toNetwork(func(d *impl.Desk, text string) (impl.Network, int64) { return impl.WithoutIdle(d.Network) }),
	"exchange":     toNetwork(func(d *impl.Desk, text string) (impl.Network, int64) { return impl.ExchangeEnds(d.Network) }),
	"build":        toNetwork(func(d *impl.Desk, text string) (impl.Network, int64) { return impl.NetworkOfFormula(d.Formula) }),
	"points":       toNetwork(func(d *impl.Desk, text string) (impl.Network, int64) { return impl.NetworkOfWiring(d.Wiring) }),
	"short":        toFormula(func(d *impl.Desk) (string, int64) { return impl.ShortFormula(d.Formula) }),
	"expand":       toFormula(func(d *impl.Desk) (string, int64) { return impl.ExpandFormula(d.Formula) }),
	"safe":         toFormula(func(d *impl.Desk) (string, int64) { return impl.SafeFormula(d.Table) }),
	"wiring TEXT":  toWiring(func(d *impl.Desk, text string, a, b int64) (impl.Wiring, int64) { return impl.ParseWiring(text) }),
	"standard N":   toWiring(func(d *impl.Desk, text string, a, b int64) (impl.Wiring, int64) { return impl.StandardWiring(a) }),
	"wire N N":     toWiring(func(d *impl.Desk, text string, a, b int64) (impl.Wiring, int64) { return impl.AddWire(d.Wiring, a, b) }),
	"break N":      toWiring(func(d *impl.Desk, text string, a, b int64) (impl.Wiring, int64) { return impl.BreakWire(d.Wiring, a) }),
	"formula TEXT": func(d *impl.Desk, text string, numbers [2]int64) (any, int64) {
		if !impl.IsFormula(text) {
			return nil, impl.ErrSyntax
		}
		d.Formula = text
		return text, impl.ErrNone
	},
	"reset": func(d *impl.Desk, text string, numbers [2]int64) (any, int64) {
		*d = deskOf("")
		return "ok", impl.ErrNone
	},
	"show":       looks(func(d *impl.Desk, n int64) (any, int64) { return d.Table, impl.ErrNone }),
	"look":       looks(func(d *impl.Desk, n int64) (any, int64) { return d.Network, impl.ErrNone }),
	"see":        looks(func(d *impl.Desk, n int64) (any, int64) { return d.Formula, impl.ErrNone }),
	"view":       looks(func(d *impl.Desk, n int64) (any, int64) { return d.Wiring, impl.ErrNone }),
	"ones":       looks(func(d *impl.Desk, n int64) (any, int64) { return anyOf(impl.OnesOf(d.Table)) }),
	"slopes":     looks(func(d *impl.Desk, n int64) (any, int64) { return anyOf(impl.SlopesOf(d.Table)) }),
	"least":      looks(func(d *impl.Desk, n int64) (any, int64) { return anyOf(impl.ContactNumber(d.Table)) }),
	"primes":     looks(func(d *impl.Desk, n int64) (any, int64) { return anyOf(impl.PrimePatterns(d.Table)) }),
	"needed":     looks(func(d *impl.Desk, n int64) (any, int64) { return anyOf(impl.NeededPatterns(d.Table)) }),
	"paths":      looks(func(d *impl.Desk, n int64) (any, int64) { return anyOf(impl.PathsOf(d.Network)) }),
	"cuts":       looks(func(d *impl.Desk, n int64) (any, int64) { return anyOf(impl.CutsOf(d.Network)) }),
	"idle":       looks(func(d *impl.Desk, n int64) (any, int64) { return anyOf(impl.IdleContacts(d.Network)) }),
	"loads":      looks(func(d *impl.Desk, n int64) (any, int64) { return anyOf(impl.LoadsOf(d.Network)) }),
	"closed N":   looks(func(d *impl.Desk, n int64) (any, int64) { return anyOf(impl.ClosedContacts(d.Network, n)) }),
	"contacts":   looks(func(d *impl.Desk, n int64) (any, int64) { return anyOf(impl.CountContacts(d.Formula)) }),
	"flickers N": looks(func(d *impl.Desk, n int64) (any, int64) { return anyOf(impl.FlickersOf(d.Formula, n)) }),
	"steady":     looks(func(d *impl.Desk, n int64) (any, int64) { return anyOf(impl.IsSafe(d.Formula)) }),
	"lit N":      looks(func(d *impl.Desk, n int64) (any, int64) { return anyOf(impl.IsLit(d.Wiring, n)) }),
	"full":       looks(func(d *impl.Desk, n int64) (any, int64) { return anyOf(impl.IsFull(d.Wiring)) }),
	"wires":      looks(func(d *impl.Desk, n int64) (any, int64) { return anyOf(impl.NeededWires(d.Wiring)) }),
}

func toTable(run func(d *impl.Desk, text string, n int64) (impl.Table, int64)) func(d *impl.Desk, text string, numbers [2]int64) (any, int64) {
	return func(d *impl.Desk, text string, numbers [2]int64) (any, int64) {
		table, code := run(d, text, numbers[0])
		d.Table = table
		return table, code
	}
}

func toNetwork(run func(d *impl.Desk, text string) (impl.Network, int64)) func(d *impl.Desk, text string, numbers [2]int64) (any, int64) {
	return func(d *impl.Desk, text string, numbers [2]int64) (any, int64) {
		network, code := run(d, text)
		d.Network = network
		return network, code
	}
}

func toFormula(run func(d *impl.Desk) (string, int64)) func(d *impl.Desk, text string, numbers [2]int64) (any, int64) {
	return func(d *impl.Desk, text string, numbers [2]int64) (any, int64) {
		w, code := run(d)
		d.Formula = w
		return w, code
	}
}

func toWiring(run func(d *impl.Desk, text string, a, b int64) (impl.Wiring, int64)) func(d *impl.Desk, text string, numbers [2]int64) (any, int64) {
	return func(d *impl.Desk, text string, numbers [2]int64) (any, int64) {
		wiring, code := run(d, text, numbers[0], numbers[1])
		d.Wiring = wiring
		return wiring, code
	}
}

func looks(run func(d *impl.Desk, n int64) (any, int64)) func(d *impl.Desk, text string, numbers [2]int64) (any, int64) {
	return func(d *impl.Desk, text string, numbers [2]int64) (any, int64) { return run(d, numbers[0]) }
}

// anyOf returns a result of any type, and the code beside it.
func anyOf[R any](result R, code int64) (any, int64) { return result, code }

// numberForm is the form of a number in a line.
var numberForm = regexp.MustCompile(`^(0|[1-9][0-9]{0,8})$`)

// formOf returns the line of the document's table that a line is one of, and the text and the numbers
// in it, or the empty form if it is none of them.
func formOf(line string) (string, string, [2]int64) {
	words := strings.Split(line, " ")
	text, numbers := "", [2]int64{}
	form := words[0]
	if slices.Contains([]string{"table", "network", "formula", "wiring"}, words[0]) && len(words) == 2 {
		form, text = form+" TEXT", words[1]
	} else {
		for i, word := range words[1:] {
			if i > 1 || !numberForm.MatchString(word) {
				return "", "", numbers
			}
			form += " N"
			fmt.Sscan(word, &numbers[i])
		}
	}
	if knownLines[form] == nil {
		return "", "", numbers
	}
	return form, text, numbers
}

// lineWith returns the desk after a line, the output, and the form of the line with the code of its
// function.
func lineWith(d impl.Desk, line string) (impl.Desk, string, string) {
	form, text, numbers := formOf(line)
	if form == "" {
		return d, "error", "no line"
	}
	after := copyOfDesk(d)
	result, code := knownLines[form](&after, text, numbers)
	kind := fmt.Sprintf("%s, %d", form, code)
	if code != impl.ErrNone {
		return d, "error", kind
	}
	return after, textOut(result), kind
}

// wantLine fails unless a line leads to a desk, and has an output, as wanted, and leaves the desk that
// is given as it is.
func wantLine(t *testing.T, d impl.Desk, line string, want impl.Desk, wanted string) {
	t.Helper()
	call := fmt.Sprintf("RunLine(%v, %.200q)", d, line)
	given, unchanged := spareDesk(d)
	after, output := impl.RunLine(given, line)
	if output != wanted {
		t.Errorf("%s puts out %.300q, want %.300q", call, output, wanted)
	}
	if !sameDesk(after, want) || !impl.IsDesk(after) {
		t.Errorf("%s leads to %v, want %v", call, after, want)
	}
	wantNewMemory(t, call, after)
	if !unchanged() || !sameDesk(given, d) {
		t.Errorf("%s changes the desk that is given, or shares memory with it", call)
	}
}

// wantLineAsTold fails unless a line does and puts out what the document's table tells, and returns the
// kind of the line.
func wantLineAsTold(t *testing.T, d impl.Desk, line string) string {
	t.Helper()
	want, output, kind := lineWith(d, line)
	wantLine(t, d, line, want, output)
	return kind
}

// wantWrongLine fails unless the output of a line is error, and the desk stays.
func wantWrongLine(t *testing.T, d impl.Desk, line string) {
	t.Helper()
	wantLine(t, d, line, d, "error")
}

func TestConsoleLimits(t *testing.T) {
	asShorts, asFloats := []int16{impl.MaxConsole, impl.MaxLines}, []float64{impl.MaxConsole, impl.MaxLines}
	if !slices.Equal(asShorts, []int16{4000, 40}) || !slices.Equal(asFloats, []float64{4000, 40}) {
		t.Errorf("MaxConsole and MaxLines: %v", asShorts)
	}
}

func TestNewDesk(t *testing.T) {
	d := impl.NewDesk()
	if d.Table != (impl.Table{Inputs: 2, Values: 8}) || d.Formula != "(ab)" || !impl.IsDesk(d) {
		t.Errorf("NewDesk() = %v", d)
	}
	wantNetwork(t, "the network of NewDesk()", d.Network, impl.ErrNone, impl.Network{Points: 3, Contacts: [][]int64{{0, 2, 0, 0}, {1, 2, 1, 0}}})
	wantWiring(t, "the wiring of NewDesk()", d.Wiring, impl.ErrNone, impl.Wiring{Terminals: 8, Switches: []int64{3, 3}, Wires: [][]int64{{0, 2}, {1, 5}, {3, 6}, {4, 7}}})
	table, code := impl.TableText(d.Table)
	wantText(t, "the table of NewDesk()", table, code, "2:0001")
	network, code := impl.NetworkText(d.Network)
	wantText(t, "the network of NewDesk()", network, code, "3:02a,12b")
	standard, code := impl.StandardWiring(2)
	wantWiring(t, "StandardWiring(2)", standard, code, d.Wiring)
	// What one call returns is not what another one does.
	for range 3 {
		again := impl.NewDesk()
		if !sameDesk(again, deskOf("")) {
			t.Fatalf("NewDesk() = %v once more", again)
		}
		wantNewMemory(t, "NewDesk()", again)
	}
}

func TestIsDesk(t *testing.T) {
	for _, d := range sampleDesks(300) {
		given, unchanged := spareDesk(d)
		if !impl.IsDesk(given) || !unchanged() {
			t.Errorf("IsDesk(%v) is false, or changes it", d)
		}
	}
	for _, d := range noDesks() {
		given, unchanged := spareDesk(d)
		if impl.IsDesk(given) || !unchanged() {
			t.Errorf("IsDesk(%.300q) is true, or changes it", fmt.Sprint(d))
		}
	}
}

// TestIsDeskOfParts makes one part after the other what is none, and then what is one again.
func TestIsDeskOfParts(t *testing.T) {
	for _, d := range sampleDesks(20) {
		for part := range 4 {
			bad := copyOfDesk(d)
			switch part {
			case 0:
				bad.Table.Values = math.MinInt64
			case 1:
				bad.Network.Points = math.MaxInt64
			case 2:
				bad.Formula = "(a"
			case 3:
				bad.Wiring.Terminals = math.MinInt64
			}
			if impl.IsDesk(bad) {
				t.Errorf("IsDesk(%v) is true", bad)
			}
			good := deskOf("")
			switch part {
			case 0:
				bad.Table = good.Table
			case 1:
				bad.Network = good.Network
			case 2:
				bad.Formula = good.Formula
			case 3:
				bad.Wiring = good.Wiring
			}
			if !impl.IsDesk(bad) {
				t.Errorf("IsDesk(%v) is false", bad)
			}
		}
	}
}

// TestNoDesks gives what is no desk, with lines that are right or wrong.
func TestNoDesks(t *testing.T) {
	lines := []string{"", " ", "reset", "x", "table 2:0001", "network 3:02a,12b", "formula (ab)", "wiring 3:0-1", "standard 2", "wire 0 1", "show", "look", "see", "view", "turn 0", "turn 00", "table x", "build", "points"}
	for i, d := range noDesks() {
		for j, line := range lines {
			if j > 2 && (i+j)%5 != 0 {
				continue
			}
			given, unchanged := spareDesk(d)
			after, output := impl.RunLine(given, line)
			if !sameDesk(after, impl.Desk{}) || output != "" || !unchanged() {
				t.Errorf("RunLine(%.300q, %q) = %v, %q, or changes the desk", fmt.Sprint(d), line, after, output)
			}
		}
	}
}

// linesByHand are lines on the new desk with other parts, with their outputs, and the letter of the
// part that becomes what is put out.
var linesByHand = []struct {
	parts, line, output, changed string
}{
	{"", "between 2", "2:0001", "T"},
	// The table.
	{"", "table 1:01", "1:01", "T"}, {"", "table 2:0001", "2:0001", "T"}, {"T=1:00", "table 3:01101001", "3:01101001", "T"}, {"", "table 5:01101001100101101001011001101001", "5:01101001100101101001011001101001", "T"}, {"", "table 2:001", "error", ""}, {"", "table 2:0002", "error", ""}, {"", "table 6:01", "error", ""}, {"", "table 02:0001", "error", ""}, {"", "table x", "error", ""},
	{"", "opposite", "2:1110", "T"}, {"T=1:00", "opposite", "1:11", "T"}, {"T=3:00011011", "opposite", "3:11100100", "T"}, {"", "dual", "2:0111", "T"}, {"T=1:00", "dual", "1:11", "T"}, {"T=1:01", "dual", "1:01", "T"}, {"T=2:0110", "dual", "2:1001", "T"}, {"T=2:1000", "dual", "2:1110", "T"},
	{"", "turn 0", "2:0010", "T"}, {"", "turn 1", "2:0100", "T"}, {"", "turn 2", "error", ""}, {"T=1:01", "turn 0", "1:10", "T"}, {"T=1:01", "turn 1", "error", ""}, {"T=3:00000001", "turn 2", "3:00010000", "T"}, {"T=3:00000001", "turn 3", "error", ""},
	{"T=1:00", "between 2", "2:0001", "T"}, {"", "between 3", "3:00010001", "T"}, {"", "between 1", "error", ""}, {"", "between 0", "error", ""}, {"", "between 6", "error", ""}, {"", "between 5", "5:00010001000100010001000100010001", "T"}, {"N=2:", "between 1", "1:00", "T"}, {"N=3:01A,02b", "between 2", "2:1010", "T"}, {"N=3:01E", "between 5", "5:11111111111111110000000000000000", "T"}, {"N=3:01E", "between 4", "error", ""},
	{"T=1:00", "values 2", "2:0001", "T"}, {"F=[aB]", "values 2", "2:1101", "T"}, {"F=[aB]", "values 3", "3:11011101", "T"}, {"F=[aB]", "values 1", "error", ""}, {"F=0", "values 0", "error", ""}, {"F=0", "values 1", "1:00", "T"}, {"F=1", "values 1", "1:11", "T"}, {"F=E", "values 4", "error", ""}, {"F=1", "values 6", "error", ""},
	{"", "lamps", "2:1001", "T"}, {"W=3:0-2,1-3", "lamps", "1:10", "T"}, {"W=3:", "lamps", "1:00", "T"}, {"W=343:0-2,1-9,3-5,4-6,7-10,8-11", "lamps", "3:10010110", "T"},
	{"", "show", "2:0001", ""}, {"T=1:11", "show", "1:11", ""}, {"", "ones", "3", ""}, {"T=1:00", "ones", "none", ""}, {"T=1:11", "ones", "0 1", ""}, {"T=5:10000000001000000000000000000001", "ones", "0 10 31", ""},
	{"", "slopes", "1 1", ""}, {"T=2:1000", "slopes", "-1 -1", ""}, {"T=2:0110", "slopes", "2 2", ""}, {"T=1:00", "slopes", "0", ""}, {"T=2:1101", "slopes", "1 -1", ""}, {"T=3:01010101", "slopes", "1 0 0", ""}, {"T=3:00011011", "slopes", "2 1 1", ""},
	{"", "least", "2", ""}, {"T=1:00", "least", "0", ""}, {"T=1:01", "least", "1", ""}, {"T=2:0110", "least", "4", ""}, {"T=3:00010111", "least", "5", ""}, {"T=4:0000000000000000", "least", "error", ""}, {"T=5:00000000000000000000000000000000", "least", "error", ""},
	{"", "primes", "11", ""}, {"T=3:00011011", "primes", "-11 0-1 11-", ""}, {"T=2:0000", "primes", "none", ""}, {"T=2:1111", "primes", "--", ""}, {"T=1:10", "primes", "0", ""}, {"T=2:0111", "primes", "-1 1-", ""}, {"", "needed", "11", ""}, {"T=3:00011011", "needed", "0-1 11-", ""}, {"T=3:01111110", "needed", "none", ""}, {"T=3:01111110", "primes", "-01 -10 0-1 01- 1-0 10-", ""}, {"T=2:0000", "needed", "none", ""}, {"T=2:1111", "needed", "--", ""},
	// The network.
	{"", "network 2:", "2:", "N"}, {"", "network 8:67E", "8:67E", "N"}, {"N=2:", "network 4:02a,12B,13c", "4:02a,12B,13c", "N"}, {"", "network 2:01a,01a", "2:01a,01a", "N"}, {"", "network 3:12b,02a", "error", ""}, {"", "network 9:", "error", ""}, {"", "network 3:02f", "error", ""}, {"", "network 3", "error", ""},
	{"", "trim", "3:02a,12b", ""}, {"N=4:02a,12b,23c", "trim", "4:02a,12b", "N"}, {"N=3:01a,02b", "trim", "3:01a", "N"}, {"N=3:02a", "trim", "3:", "N"}, {"N=2:", "trim", "2:", "N"}, {"", "exchange", "3:02b,12a", "N"}, {"N=2:01a,01B", "exchange", "2:01a,01B", "N"}, {"N=4:02a,03b,12c,13d,23e", "exchange", "4:02c,03d,12a,13b,23e", "N"},
	{"", "build", "3:02a,12b", "N"}, {"F=[(ab)(Ac)]", "build", "4:02a,03A,12b,13c", "N"}, {"F=0", "build", "2:", "N"}, {"F=E", "build", "2:01E", "N"}, {"F=(a1)", "build", "error", ""}, {"F=1", "build", "error", ""}, {"F=(abcdeAB)", "build", "8:02a,17B,23b,34c,45d,56e,67A", "N"}, {"F=(abcdeABC)", "build", "error", ""}, {"F=[abcdeABCDEaaa]", "build", "error", ""},
	{"", "points", "4:02A,03a,12B,13b", "N"}, {"W=3:0-2,1-4", "points", "2:01a", "N"}, {"W=3:", "points", "2:", "N"}, {"W=3:0-1", "points", "error", ""}, {"W=34443:0-2,1-17,3-5,4-6,7-9,8-10,11-13,12-14,15-18,16-19", "points", "error", ""},
	{"", "look", "3:02a,12b", ""}, {"N=8:", "look", "8:", ""}, {"", "paths", "0 1", ""}, {"N=3:01c,02a,12b", "paths", "0;1 2", ""}, {"N=2:", "paths", "none", ""}, {"N=3:02a", "paths", "none", ""}, {"N=2:01a", "paths", "0", ""}, {"N=4:02a,03b,12c,13d,23e", "paths", "0 2;0 3 4;1 2 4;1 3", ""},
	{"", "cuts", "0;1", ""}, {"N=3:01c,02a,12b", "cuts", "0 1;0 2", ""}, {"N=2:", "cuts", "none", ""}, {"N=3:02a", "cuts", "none", ""}, {"N=2:01a,01B", "cuts", "0 1", ""}, {"N=4:02a,03b,12c,13d,23e", "cuts", "0 1;0 3 4;1 2 4;2 3", ""},
	{"", "idle", "none", ""}, {"N=4:02a,12b,23c", "idle", "2", ""}, {"N=4:02a,02b,03c", "idle", "0 1 2", ""}, {"N=2:", "idle", "none", ""}, {"", "loads", "1 1 0 0 0", ""}, {"N=2:", "loads", "0 0 0 0 0", ""}, {"N=2:01e,01E", "loads", "0 0 0 0 2", ""},
	{"", "closed 0", "none", ""}, {"", "closed 1", "0", ""}, {"", "closed 2", "1", ""}, {"", "closed 3", "0 1", ""}, {"", "closed 28", "none", ""}, {"", "closed 31", "0 1", ""}, {"", "closed 32", "error", ""}, {"N=2:01a,01A", "closed 0", "1", ""}, {"N=2:", "closed 5", "none", ""},
	// The formula.
	{"", "formula a", "a", "F"}, {"", "formula 0", "0", "F"}, {"F=0", "formula ([aB]1)", "([aB]1)", "F"}, {"", "formula (a)", "error", ""}, {"", "formula x", "error", ""}, {"", "formula ab", "error", ""}, {"", "formula 2", "error", ""},
	{"", "short", "(ab)", ""}, {"F=(a[b0]1)", "short", "(ab)", "F"}, {"F=[a1]", "short", "1", "F"}, {"F=(a(bc))", "short", "(abc)", "F"}, {"", "expand", "(ab)", ""}, {"F=([ab]c)", "expand", "[(ac)(bc)]", "F"}, {"F=(aA)", "expand", "0", "F"}, {"F=([ab][ac][ad][ae][bc][bd][be][cd])", "expand", "error", ""}, {"F=([abcde][ABCDE])", "expand", "error", ""}, {"F=([ab][cd][eA][BC][DE])", "expand", "[(aceBD)(bdACE)]", "F"},
	{"F=0", "safe", "(ab)", "F"}, {"T=3:00011011", "safe", "[(bc)(Ac)(ab)]", "F"}, {"T=1:00", "safe", "0", "F"}, {"T=1:11", "safe", "1", "F"}, {"T=2:0111", "safe", "[ba]", "F"}, {"T=5:01101001100101101001011001101001", "safe", "error", ""},
	{"", "see", "(ab)", ""}, {"F=[a(b0)]", "see", "[a(b0)]", ""}, {"", "contacts", "2", ""}, {"F=0", "contacts", "0", ""}, {"F=[(ab)(Ac)1]", "contacts", "4", ""}, {"", "flickers 2", "none", ""}, {"F=[(ab)(Ac)]", "flickers 3", "6 0 0", ""}, {"F=[(ab)(Ac)]", "flickers 4", "6 0 0;14 0 0", ""}, {"F=[(ab)(Ac)]", "flickers 2", "error", ""}, {"F=[(ab)(Ac)]", "flickers 6", "error", ""}, {"F=([ab][Ac])", "flickers 3", "0 0 1", ""}, {"F=0", "flickers 0", "error", ""}, {"F=0", "flickers 1", "none", ""},
	{"", "steady", "yes", ""}, {"F=[(ab)(Ac)]", "steady", "no", ""}, {"F=([ab][Ac])", "steady", "no", ""}, {"F=[(bc)(Ac)(ab)]", "steady", "yes", ""},
	// The wiring.
	{"", "wiring 3:", "3:", "W"}, {"", "wiring 44444:20-21", "44444:20-21", "W"}, {"W=3:", "wiring 33:0-2,1-5,3-6,4-7", "33:0-2,1-5,3-6,4-7", "W"}, {"", "wiring 3:1-0", "error", ""}, {"", "wiring 5:", "error", ""}, {"", "wiring 3", "error", ""}, {"", "wiring 3:0-5", "error", ""},
	{"W=3:", "standard 2", "33:0-2,1-5,3-6,4-7", "W"}, {"", "standard 3", "343:0-2,1-9,3-5,4-6,7-10,8-11", "W"}, {"", "standard 4", "3443:0-2,1-13,3-5,4-6,7-9,8-10,11-14,12-15", "W"}, {"", "standard 5", "34443:0-2,1-17,3-5,4-6,7-9,8-10,11-13,12-14,15-18,16-19", "W"}, {"", "standard 0", "error", ""}, {"", "standard 1", "error", ""}, {"", "standard 6", "error", ""},
	{"", "wire 7 3", "33:0-2,1-5,3-6,3-7,4-7", "W"}, {"", "wire 3 7", "33:0-2,1-5,3-6,3-7,4-7", "W"}, {"", "wire 0 2", "33:0-2,0-2,1-5,3-6,4-7", "W"}, {"", "wire 1 0", "33:0-1,0-2,1-5,3-6,4-7", "W"}, {"", "wire 3 3", "error", ""}, {"", "wire 0 8", "error", ""}, {"", "wire 8 0", "error", ""}, {"W=3:0-1,0-1,0-1,0-1,0-1,0-1,0-1,0-1,0-1,0-1,0-1,0-1,0-1,0-1,0-1,0-1", "wire 0 1", "error", ""}, {"W=3:0-1,0-1,0-1,0-1,0-1,0-1,0-1,0-1,0-1,0-1,0-1,0-1,0-1,0-1,0-1", "wire 0 1", "3:0-1,0-1,0-1,0-1,0-1,0-1,0-1,0-1,0-1,0-1,0-1,0-1,0-1,0-1,0-1,0-1", "W"}, {"W=44444:", "wire 10 21", "44444:10-21", "W"},
	{"", "break 0", "33:1-5,3-6,4-7", "W"}, {"", "break 1", "33:0-2,3-6,4-7", "W"}, {"", "break 3", "33:0-2,1-5,3-6", "W"}, {"", "break 4", "error", ""}, {"W=3:", "break 0", "error", ""}, {"W=3:0-1", "break 0", "3:", "W"}, {"W=3:0-1,0-2,0-3,0-4,1-2,1-3,1-4,2-3,2-4,3-4,3-4", "break 10", "3:0-1,0-2,0-3,0-4,1-2,1-3,1-4,2-3,2-4,3-4", "W"},
	{"", "view", "33:0-2,1-5,3-6,4-7", ""}, {"W=4:", "view", "4:", ""}, {"", "lit 0", "yes", ""}, {"", "lit 1", "no", ""}, {"", "lit 2", "no", ""}, {"", "lit 3", "yes", ""}, {"", "lit 4", "error", ""}, {"W=44444:0-1", "lit 31", "yes", ""}, {"W=44444:0-1", "lit 32", "error", ""}, {"", "full", "yes", ""}, {"W=3:", "full", "no", ""}, {"W=3:0-2,1-4", "full", "yes", ""}, {"W=33:0-2,1-5,3-6", "full", "no", ""},
	{"", "wires", "0 1 2 3", ""}, {"W=3:", "wires", "none", ""}, {"W=3:0-1,0-1", "wires", "none", ""}, {"W=3:0-1,0-2,1-3", "wires", "0", ""}, {"W=33:0-2,1-5,3-6,3-6,4-7", "wires", "0 1 4", ""},
}

func TestLinesByHand(t *testing.T) {
	met := map[string]int{}
	for _, c := range linesByHand {
		d := deskOf(c.parts)
		want := d
		if c.changed != "" {
			want = withPart(d, c.changed, c.output)
		}
		wantLine(t, d, c.line, want, c.output)
		form, _, _ := formOf(c.line)
		met[form]++
	}
	for form := range knownLines {
		if met[form] < 2 && form != "reset" {
			t.Errorf("%q: %d lines by hand", form, met[form])
		}
	}
}

func TestReset(t *testing.T) {
	for _, d := range sampleDesks(50) {
		wantLine(t, d, "reset", deskOf(""), "ok")
		for _, line := range []string{"reset ", "reset 0", " reset", "Reset", "reset\n", "resets", "rese"} {
			wantWrongLine(t, d, line)
		}
	}
}

// linesOfForm returns lines of a form of the document's table for all numbers from 0 on and some that
// are greater, and for some texts.
func linesOfForm(source *rand.Rand, pool deskPool, form string) []string {
	words := strings.Split(form, " ")
	var lines []string
	switch strings.Join(words[1:], " ") {
	case "":
		return []string{form}
	case "TEXT":
		for range 3 {
			lines = append(lines, words[0]+" "+pool.text(source, words[0]), words[0]+" "+pool.text(source, ""))
		}
		return append(lines, words[0]+" ", words[0]+" "+pool.text(source, words[0])+"x")
	case "N":
		for n := range 8 {
			lines = append(lines, fmt.Sprintf("%s %d", words[0], n))
		}
		for _, n := range []int64{10, 15, 16, 31, 32, 33, 64, 99999999, 999999999, 1000000000} {
			lines = append(lines, fmt.Sprintf("%s %d", words[0], n))
		}
		return lines
	}
	for range 12 {
		lines = append(lines, fmt.Sprintf("%s %d %d", words[0], source.Intn(10), source.Intn(10)))
	}
	return append(lines, words[0]+" 0 1", words[0]+" 1 0", words[0]+" 10 21", words[0]+" 22 3", words[0]+" 3 22", words[0]+" 0 999999999", words[0]+" 999999999 0")
}

// sortedForms returns the lines of the document's table in a fixed order.
func sortedForms() []string {
	var forms []string
	for form := range knownLines {
		forms = append(forms, form)
	}
	slices.Sort(forms)
	return forms
}

func TestLinesOnDesks(t *testing.T) {
	kinds := map[string]int{}
	pool, source := newDeskPool(), rand.New(rand.NewSource(17))
	for _, d := range sampleDesks(150) {
		for _, form := range sortedForms() {
			for _, line := range linesOfForm(source, pool, form) {
				kinds[wantLineAsTold(t, d, line)]++
			}
		}
	}
	if len(knownLines) != 41 {
		t.Errorf("the document has 41 lines, not %d", len(knownLines))
	}
	for form := range knownLines {
		wantKinds(t, kinds, form+", 0")
	}
	wantKinds(t, kinds, "no line", "table TEXT, 6", "network TEXT, 6", "formula TEXT, 6", "wiring TEXT, 6", "turn N, 2", "between N, 2", "values N, 2", "closed N, 2", "flickers N, 2", "lit N, 2", "standard N, 2", "wire N N, 2", "wire N N, 3", "break N, 2",
		"least, 3", "expand, 3", "safe, 3", "build, 3", "build, 5", "points, 3", "points, 5")
}

// rightLines has a line of each form with words behind it that is right on the new desk.
var rightLines = []string{"table 2:0001", "turn 0", "turn 1", "network 3:02a,12b", "formula (ab)", "wiring 3:0-1", "standard 2", "standard 3", "wire 0 1", "wire 1 0", "break 0", "break 1", "between 2", "between 3", "values 2", "values 3", "closed 0", "closed 1", "flickers 2", "flickers 3", "lit 0", "lit 1"}

// linesWithoutWords has all lines of the document's table that are a command alone.
var linesWithoutWords = []string{"opposite", "dual", "trim", "exchange", "short", "expand", "safe", "build", "points", "lamps", "show", "look", "see", "view", "ones", "slopes", "least", "primes", "needed", "paths", "cuts", "idle", "loads", "contacts", "steady", "full", "wires", "reset"}

// TestWordsOfLines leaves out words, and puts words in, empty ones too.
func TestWordsOfLines(t *testing.T) {
	other := deskOf("T=3:00011011 N=2:01a F=a W=4:0-2,1-4,1-5")
	for _, line := range append(slices.Clone(rightLines), linesWithoutWords...) {
		for _, d := range []impl.Desk{deskOf(""), other} {
			if _, output, _ := lineWith(d, line); output == "error" && sameDesk(d, deskOf("")) {
				t.Fatalf("%q is wrong on the new desk", line)
			}
			wantLineAsTold(t, d, line)
			words := strings.Split(line, " ")
			for at := range len(words) + 1 {
				for _, more := range []string{"", "0", "1", "x", "2:0001", "show", line} {
					wantWrongLine(t, d, strings.Join(slices.Insert(slices.Clone(words), at, more), " "))
					wantWrongLine(t, d, strings.Join(slices.Insert(slices.Clone(words), at, more, more), " "))
					wantWrongLine(t, d, strings.Join(slices.Insert(slices.Clone(words), at, slices.Repeat([]string{more}, 50)...), " "))
				}
				if at < len(words) {
					wantWrongLine(t, d, strings.Join(slices.Delete(slices.Clone(words), at, at+1), " "))
				}
			}
			for at := 1; at < len(words); at++ {
				wantWrongLine(t, d, strings.Join(append(slices.Clone(words[:at]), slices.Repeat([]string{""}, len(words)-at)...), " "))
				wantWrongLine(t, d, strings.Join(words[:at], " ")+"\t"+strings.Join(words[at:], " "))
				wantWrongLine(t, d, strings.Join(words[:at], " ")+strings.Join(words[at:], " "))
				wantWrongLine(t, d, strings.Join(words[:at], " ")+"\u00a0"+strings.Join(words[at:], " "))
			}
		}
	}
}

// TestDamagedLines puts each byte into each place of lines, and in the place of each byte, and leaves
// bytes out.
func TestDamagedLines(t *testing.T) {
	kinds := map[string]int{}
	d := deskOf("T=3:00011011")
	for _, line := range append([]string{"table 1:01", "network 2:01a", "formula a", "wiring 3:0-1", "standard 2", "wire 0 1", "break 0", "closed 1"}, linesWithoutWords...) {
		for at := range len(line) + 1 {
			for sign := range 256 {
				text := string([]byte{byte(sign)})
				kinds[wantLineAsTold(t, d, line[:at]+text+line[at:])]++
				if at < len(line) && sign%3 == at%3 {
					kinds[wantLineAsTold(t, d, line[:at]+text+line[at+1:])]++
				}
			}
			wantLineAsTold(t, d, line[:at])
			wantLineAsTold(t, d, line[at:])
			if at < len(line) {
				wantLineAsTold(t, d, line[:at]+line[at+1:])
				wantLineAsTold(t, d, line[:at]+strings.ToUpper(line[at:at+1])+line[at+1:])
			}
		}
		wantWrongLine(t, d, strings.ToUpper(line))
		wantWrongLine(t, d, line+"\n")
		wantWrongLine(t, d, "\n"+line)
		wantWrongLine(t, d, line+"\r")
		wantWrongLine(t, d, line+"\nshow")
		wantWrongLine(t, d, line+" \n")
		wantWrongLine(t, d, line+"\x00")
	}
	for _, kind := range []string{"standard N, 0", "standard N, 2", "wire N N, 0", "wire N N, 2", "table TEXT, 6", "network TEXT, 0", "formula TEXT, 0", "formula TEXT, 6", "closed N, 0", "break N, 0"} {
		if kinds[kind] < 2 {
			t.Errorf("%s: just %d samples", kind, kinds[kind])
		}
	}
}

// noNumbers are words that are no numbers in a line. Some of them would be 0, 1, 2 or 3 if read less
// strictly.
var noNumbers = []string{
	"", "00", "01", "02", "03", "000", "0000000000", "000000002", "0000000002", "+0", "+1", "+2", "-0", "-1", "-2", "--1", "+", "-", "0.0", "1.0", "2.", ".2", "2,", "0,1", "1e0", "2e0", "0x0", "0x2", "0b1", "0o2", "1_0", "_1", "1_", "2;", "a", "I", "K", "2a", "a2", "2\n", "\n2", "2\t", "\t2", "2\r", "2\x00", "\x002", "\x00", "\x02", "2\xff", "\u0662", "\uff12", "\u00b2", "'2'", "\"2\"", "(2)", "2:", "two", "none", "nil", "NaN", "Inf",
	"1000000000", "1000000002", "4294967296", "4294967298", "9223372036854775807", "9223372036854775808", "18446744073709551616", "18446744073709551618", "-18446744073709551614", "99999999999999999999", strings.Repeat("0", 1000), strings.Repeat("0", 1000) + "2", strings.Repeat("9", 100000), "2" + strings.Repeat("0", 100000),
}

func TestNumbersInLines(t *testing.T) {
	for _, line := range rightLines {
		form, _, _ := formOf(line)
		words := strings.Split(line, " ")
		if !strings.Contains(form, " N") {
			continue
		}
		for at := 1; at < len(words); at++ {
			for _, word := range noNumbers {
				bad := slices.Clone(words)
				bad[at] = word
				wantWrongLine(t, deskOf(""), strings.Join(bad, " "))
			}
			// Numbers of nine digits are some, but too great for all functions.
			for _, word := range []string{"999999999", "100000000", "123456789", "64", "4294967"} {
				bad := slices.Clone(words)
				bad[at] = word
				wantWrongLine(t, deskOf(""), strings.Join(bad, " "))
			}
			for n := range 100 {
				numbered := slices.Clone(words)
				numbered[at] = fmt.Sprint(n)
				wantLineAsTold(t, deskOf(""), strings.Join(numbered, " "))
				numbered[at] = fmt.Sprintf("0%d", n)
				wantWrongLine(t, deskOf(""), strings.Join(numbered, " "))
				numbered[at] = fmt.Sprintf("-%d", n)
				wantWrongLine(t, deskOf(""), strings.Join(numbered, " "))
			}
		}
	}
}

func TestWrongLines(t *testing.T) {
	lines := []string{
		"", " ", "  ", "\n", "\t", "\x00", "\xff", "0", "none", "ok", "yes", "no", "error", "fly", "help", "quit", "T", "N", "F", "W", "desk", "Table 2:0001", "TABLE 2:0001", "tables", "tabl 2:0001", "Show", "SHOW", "sHow", "show show", "show,look", "show;look", "show\nlook", "show\n", "\nshow", "opposite, dual", "opposite,dual", "opposite dual", "short, expand", "look,", "paths, cuts", "show, look, see, view",
		"table TEXT", "turn I", "wire A B", "standard K", "closed R", "flicker 3", "close 1", "path", "cut", "load", "contact", "light 0", "wired 0 1", "breaks 0", "point", "lamp", "value 2", "betwee 2", "between  2", "between 2 ", " between 2", "between 2 0 1", "between", "between 2 2", "wire 0", "wire 0 1 2", "wire  0 1", "wire 0  1", "wire 0 1 ", "wire 0,1", "wire 0-1", "table", "table ", "table  ", "table  2:0001", "table 2:0001 ", "table 2:00 01", "table 2: 0001", "network", "network ", "network 3:02a, 12b", "network 3: 02a", "formula", "formula ", "formula (a b)", "formula (ab) ", "formula  (ab)", "formula \n", "formula (ab)\n", "formula (\nab)", "formula \u00e4", "wiring", "wiring ", "wiring 3:0-1, 0-2", "wiring 3:0 - 1",
	}
	for _, line := range lines {
		for _, d := range desksByHand() {
			wantWrongLine(t, d, line)
		}
	}
	for _, w := range noFormulas {
		wantWrongLine(t, deskOf(""), "formula "+w)
	}
	for _, text := range shortTexts("s how", 5) {
		wantLineAsTold(t, deskOf(""), text)
	}
	for _, text := range shortTexts("1 0", 4) {
		wantLineAsTold(t, deskOf(""), "wire"+text)
		wantLineAsTold(t, deskOf(""), "break"+text)
	}
}

func TestLongLines(t *testing.T) {
	long := 300000
	for _, line := range []string{
		strings.Repeat(" ", long), strings.Repeat("a ", long), strings.Repeat("show ", long), "show" + strings.Repeat(" ", long), strings.Repeat(" ", long) + "show", strings.Repeat("show", long), strings.Repeat("\n", long), strings.Repeat("\xff", long), strings.Repeat("show\n", long),
		"table " + strings.Repeat("0", long), "table 5:" + strings.Repeat("0", long), "table" + strings.Repeat(" 2:0001", long), "network 8:" + strings.Repeat("01a,", long), "network 2:" + strings.Repeat(",", long), "formula " + strings.Repeat("(", long), "formula (" + strings.Repeat("a", long) + ")", "formula " + strings.Repeat("(a", long) + "b" + strings.Repeat(")", long), "wiring " + strings.Repeat("3", long) + ":", "wiring 3:" + strings.Repeat("0-1,", long), "wiring 3:0-" + strings.Repeat("1", long),
		"turn " + strings.Repeat("1", long), "turn " + strings.Repeat("0", long), "wire" + strings.Repeat(" 1", long), "wire " + strings.Repeat("0", long) + " 1", "reset" + strings.Repeat("\x00", long),
	} {
		wantWrongLine(t, deskOf(""), line)
	}
	// A text at the limit of formulas, and one byte more.
	wantLine(t, deskOf(""), "formula "+atLimit, deskOf("F="+atLimit), atLimit)
	wantWrongLine(t, deskOf(""), "formula ("+atLimit[1:79]+"a)")
}

// TestWrongLinesStay checks that a desk stays in every field after lines whose functions return codes,
// one after the other.
func TestWrongLinesStay(t *testing.T) {
	for _, c := range []struct{ parts, lines string }{
		{"T=4:0110100110010110 N=8:67E F=[(ab)1] W=3:0-1", "least,between 4,values 1,values 6,build,points,standard 1,standard 6,wire 0 5,wire 5 0,wire 2 2,break 1,turn 4,closed 32,lit 2,flickers 1,flickers 6,table 4:,network 8:67E:,formula [(ab)1,wiring 3:0-1:"},
		{"T=5:01101001100101101001011001101001 N=2: F=(abcdeABCDE) W=33:0-1,0-1,0-1,0-1,0-1,0-1,0-1,0-1,0-1,0-1,0-1,0-1,0-1,0-1,0-1,0-1", "safe,least,build,points,wire 0 1,wire 7 6,break 16,turn 5,between 0,values 4,lit 4,flickers 4"},
		{"F=([ab][ac][ad][ae][bc][bd][be][cd])", "expand,build,values 4,flickers 4"},
	} {
		d := deskOf(c.parts)
		for _, line := range strings.Split(c.lines, ",") {
			if !strings.Contains(line, ":") {
				wantWrongLine(t, d, line)
			}
			after, output := impl.RunLine(d, line)
			if output != "error" || !sameDesk(after, deskOf(c.parts)) {
				t.Errorf("RunLine(%v, %q) = %v, %q", d, line, after, output)
			}
			d = after
		}
	}
}

// TestLinesAgain runs lines twice on the same desk, and writes on what the first run returns.
func TestLinesAgain(t *testing.T) {
	for _, d := range desksByHand() {
		for _, line := range slices.Concat(rightLines, linesWithoutWords, []string{"", "x", "turn 9"}) {
			given, unchanged := spareDesk(d)
			first, output := impl.RunLine(given, line)
			want := copyOfDesk(first)
			wantNewMemory(t, line, first)
			again, same := impl.RunLine(given, line)
			if !sameDesk(again, want) || same != output || !unchanged() {
				t.Errorf("RunLine(%v, %q) = %v, %q once more, want %v, %q", d, line, again, same, want, output)
			}
		}
	}
}

// lineFrom returns a line from a sequence: mostly one of the document's table, with numbers and texts
// that are often right, and now and then a damaged one.
func lineFrom(source *rand.Rand, pool deskPool) string {
	words := strings.Split(oneOf(source, sortedForms()), " ")
	if words[0] == "reset" && source.Intn(3) > 0 {
		words[0] = "steady"
	}
	for i, word := range words {
		switch word {
		case "N":
			words[i] = fmt.Sprint(source.Intn(oneOf(source, []int{2, 4, 6, 8, 33})))
		case "TEXT":
			words[i] = pool.text(source, words[0])
		}
	}
	line := strings.Join(words, " ")
	switch at := source.Intn(len(line)); source.Intn(25) {
	case 0:
		return line[:at] + line[at+1:]
	case 1:
		return line[:at] + " " + line[at:]
	case 2:
		return line + " "
	case 3:
		return line + " 0"
	case 4:
		return " " + line
	}
	return line
}

// scriptFrom returns lines from a sequence, with empty ones between them, in as many bytes and lines as
// the console takes.
func scriptFrom(source *rand.Rand, pool deskPool) []string {
	var lines []string
	room := 4000
	for range source.Intn(41) {
		line := lineFrom(source, pool)
		if source.Intn(8) == 0 {
			line = ""
		}
		if len(line)+1 > room {
			break
		}
		room -= len(line) + 1
		lines = append(lines, line)
	}
	return lines
}

// scriptWith returns the outputs of lines on the new desk, each followed by a newline, and the desk
// after them. Empty lines are left out.
func scriptWith(lines []string) (string, impl.Desk) {
	outputs, d := "", deskOf("")
	for _, line := range lines {
		if line != "" {
			after, output, _ := lineWith(d, line)
			outputs, d = outputs+output+"\n", after
		}
	}
	return outputs, d
}

// wantConsole fails unless the outputs of a text, and the desk after it, are as wanted.
func wantConsole(t *testing.T, text string, outputs string, want impl.Desk) {
	t.Helper()
	if got := impl.Console(text); got != outputs {
		t.Errorf("Console(%.500q) = %.500q, want %.500q", text, got, outputs)
	}
	d, accepted := impl.DeskAfter(text)
	if !accepted || !sameDesk(d, want) || !impl.IsDesk(d) {
		t.Errorf("DeskAfter(%.500q) = %v, %v, want %v, true", text, d, accepted, want)
	}
	wantNewMemory(t, fmt.Sprintf("DeskAfter(%.500q)", text), d)
}

// wantRefused fails unless the console refuses a text.
func wantRefused(t *testing.T, text string) {
	t.Helper()
	d, accepted := impl.DeskAfter(text)
	if outputs := impl.Console(text); outputs != "" || accepted || !sameDesk(d, impl.Desk{}) {
		t.Errorf("a text of %d bytes and %d newlines, %.60q: Console %.200q, DeskAfter %v, %v", len(text), strings.Count(text, "\n"), text, outputs, d, accepted)
	}
}

func TestConsole(t *testing.T) {
	pool, source := newDeskPool(), rand.New(rand.NewSource(18))
	kinds := map[string]int{}
	for range 1500 {
		lines := scriptFrom(source, pool)
		outputs, d := scriptWith(lines)
		text := strings.Join(lines, "\n")
		if len(lines) == 0 || lines[len(lines)-1] != "" {
			wantConsole(t, text, outputs, d)
			kinds["without a newline at the end"]++
		}
		if len(lines) > 0 {
			wantConsole(t, text+"\n", outputs, d)
			kinds["with a newline at the end"]++
		}
		if slices.Contains(lines, "") {
			kinds["empty lines"]++
		}
		if len(lines) == 0 {
			kinds["no lines"]++
		}
		if len(lines) == 40 {
			kinds["as many lines as there can be"]++
		}
		if strings.Contains(outputs, "error\n") {
			kinds["wrong lines"]++
		}
		if strings.HasSuffix(outputs, "error\n") {
			kinds["the last line is wrong"]++
		}
	}
	wantKinds(t, kinds, "without a newline at the end", "with a newline at the end", "empty lines", "no lines", "as many lines as there can be", "wrong lines", "the last line is wrong")
}

func TestConsoleByHand(t *testing.T) {
	for _, c := range []struct{ text, outputs, parts string }{
		{"", "", ""}, {"\n", "", ""}, {"\n\n\n", "", ""}, {" ", "error\n", ""}, {" \n", "error\n", ""}, {"\n \n", "error\n", ""}, {"show", "2:0001\n", ""}, {"show\n", "2:0001\n", ""}, {"\nshow", "2:0001\n", ""}, {"\n\nshow\n\n", "2:0001\n", ""}, {"show\n\n\nlook", "2:0001\n3:02a,12b\n", ""}, {"show\nlook\nsee\nview\n", "2:0001\n3:02a,12b\n(ab)\n33:0-2,1-5,3-6,4-7\n", ""},
		{"between 2", "2:0001\n", ""}, {"show look", "error\n", ""}, {"show\r\nlook\r\n", "error\nerror\n", ""}, {"show\tlook", "error\n", ""}, {"x\ny\n\nz", "error\nerror\nerror\n", ""}, {"show \n", "error\n", ""}, {"formula \nsee", "error\n(ab)\n", ""}, {"formula\n(ab)", "error\nerror\n", ""},
		{"opposite\nopposite", "2:1110\n2:0001\n", ""}, {"opposite\nshow\nones", "2:1110\n2:1110\n0 1 2\n", "T=2:1110"}, {"dual\nturn 0\nturn 1\nslopes", "2:0111\n2:1011\n2:1110\n-1 -1\n", "T=2:1110"},
		{"table 3:00011011\nleast\nsafe\nsteady\ncontacts\nvalues 3", "3:00011011\n4\n[(bc)(Ac)(ab)]\nyes\n6\n3:00011011\n", "T=3:00011011 F=[(bc)(Ac)(ab)]"},
		{"formula [(ab)(Ac)]\nflickers 3\nsteady\nvalues 3\nsafe\nflickers 3\nbuild\nbetween 3\nexchange\ncuts", "[(ab)(Ac)]\n6 0 0\nno\n3:00011011\n[(bc)(Ac)(ab)]\nnone\n5:02b,03A,04a,12c,13c,14b\n3:00011011\n5:02c,03c,04b,12b,13A,14a\n0 1 2;0 1 5;0 2 4;0 4 5;1 2 3;1 3 5;2 3 4;3 4 5\n", "T=3:00011011 N=5:02c,03c,04b,12b,13A,14a F=[(bc)(Ac)(ab)]"},
		{"standard 3\nlamps\nfull\nbreak 2\nfull\nwires\nwire 5 3\nfull\npoints\nbetween 3", "343:0-2,1-9,3-5,4-6,7-10,8-11\n3:10010110\nyes\n343:0-2,1-9,4-6,7-10,8-11\nno\n0 1 2 3 4\n343:0-2,1-9,3-5,4-6,7-10,8-11\nyes\n6:02A,03a,14C,15c,24B,25b,34b,35B\n3:10010110\n", "T=3:10010110 N=6:02A,03a,14C,15c,24B,25b,34b,35B W=343:0-2,1-9,3-5,4-6,7-10,8-11"},
		{"network 4:02a,12b,23c\nidle\ntrim\nidle\nloads\nclosed 3\npaths", "4:02a,12b,23c\n2\n4:02a,12b\nnone\n1 1 0 0 0\n0 1\n0 1\n", "N=4:02a,12b"},
		{"formula (a[b0]1)\nbuild\nshort\nbuild\nexpand\nsee", "(a[b0]1)\nerror\n(ab)\n3:02a,12b\n(ab)\n(ab)\n", ""},
		{"table 1:01\nnetwork 2:\nformula 0\nwiring 3:\nreset\nview", "1:01\n2:\n0\n3:\nok\n33:0-2,1-5,3-6,4-7\n", ""}, {"reset\ntable 1:01\nreset x\nreset ", "ok\n1:01\nerror\nerror\n", "T=1:01"}, {"table 2:\nnetwork 3:\nformula )\nwiring 3:\nshow", "error\n3:\nerror\n3:\n2:0001\n", "N=3: W=3:"},
	} {
		wantConsole(t, c.text, c.outputs, deskOf(c.parts))
	}
}

func TestLinesOfTheConsole(t *testing.T) {
	for count := 36; count <= 45; count++ {
		for _, line := range []string{"", "show", "x", " ", "opposite"} {
			for _, last := range []string{"", "show", " ", line} {
				text := strings.Repeat(line+"\n", count) + last
				lines := slices.Repeat([]string{line}, count)
				if last != "" {
					lines = append(lines, last)
				}
				if len(lines) > 40 {
					wantRefused(t, text)
					continue
				}
				outputs, d := scriptWith(lines)
				wantConsole(t, text, outputs, d)
			}
		}
	}
	// Empty lines count, wherever they are.
	for before := range 41 {
		text := strings.Repeat("\n", before) + "opposite" + strings.Repeat("\n", 40-before)
		if before == 40 {
			wantRefused(t, text)
		} else {
			wantConsole(t, text, "2:1110\n", deskOf("T=2:1110"))
		}
		wantRefused(t, "\n"+text)
		wantRefused(t, text+"\n")
	}
	wantConsole(t, strings.Repeat("\n", 40), "", deskOf(""))
	wantRefused(t, strings.Repeat("\n", 41))
	wantRefused(t, strings.Repeat("\n", 4000))
	wantRefused(t, strings.Repeat("show\n", 40)+"\n")
	// Carriage returns, and others that end lines elsewhere, do not.
	wantConsole(t, strings.Repeat("show\r", 60), "error\n", deskOf(""))
	wantConsole(t, strings.Repeat("show\u2028\v\f", 60), "error\n", deskOf(""))
}

func TestBytesOfTheConsole(t *testing.T) {
	for size := 3990; size <= 4010; size++ {
		begun := "opposite\n"
		texts := map[string]string{
			begun + strings.Repeat("x", size-len(begun)):                                             "2:1110\nerror\n",
			begun + strings.Repeat("x", size-len(begun)-1) + "\n":                                    "2:1110\nerror\n",
			strings.Repeat(" ", size-len(begun)-8) + "\n" + begun + "opposi":                         "error\n2:1110\nerror\n",
			strings.Repeat("show ", 700) + "\n" + strings.Repeat("y", size-3501):                     "error\nerror\n",
			"x" + strings.Repeat("\xff\x00", (size-1)/2) + strings.Repeat("x", 1-size%2) + "\n" + "": "error\n",
		}
		for text, outputs := range texts {
			if len(text) > 4000 {
				wantRefused(t, text)
				continue
			}
			after := deskOf("")
			if strings.Contains(text, begun) {
				after = deskOf("T=2:1110")
			}
			wantConsole(t, text, outputs, after)
		}
	}
	// Bytes are counted, not signs.
	wantConsole(t, strings.Repeat("\u00e4", 2000), "error\n", deskOf(""))
	wantRefused(t, strings.Repeat("\u00e4", 2000)+"x")
	wantRefused(t, strings.Repeat("\u20ac", 1334))
	wantConsole(t, strings.Repeat("\u20ac", 1333), "error\n", deskOf(""))
	for _, text := range []string{strings.Repeat("x", 4001), strings.Repeat(" ", 4001), strings.Repeat("x", 1000000), strings.Repeat("show\n", 1000000), strings.Repeat("\n", 1000000), "show" + strings.Repeat("\n", 39) + strings.Repeat("x", 3958)} {
		wantRefused(t, text)
	}
}

// TestPromise11 checks the eleventh promise by the functions of the chapter alone: lines lead from
// desks to desks, those with the output error change nothing, and the console joins the outputs.
func TestPromise11(t *testing.T) {
	pool, source := newDeskPool(), rand.New(rand.NewSource(19))
	kinds := map[string]int{}
	for range 800 {
		lines := scriptFrom(source, pool)
		d, outputs := impl.NewDesk(), ""
		for _, line := range lines {
			if line == "" {
				continue
			}
			before := copyOfDesk(d)
			after, output := impl.RunLine(d, line)
			if !impl.IsDesk(after) || output == "" || strings.Contains(output, "\n") || !sameDesk(d, before) {
				t.Fatalf("RunLine(%v, %q) = %v, %q", d, line, after, output)
			}
			changed := !sameDesk(after, before)
			if output == "error" && changed {
				t.Errorf("RunLine(%v, %q) = %v, %q", d, line, after, output)
			}
			kinds[fmt.Sprintf("error: %v, changed: %v", output == "error", changed)]++
			d = after
			outputs += output + "\n"
		}
		wantConsole(t, strings.Join(append(lines, ""), "\n"), outputs, d)
	}
	wantKinds(t, kinds, "error: true, changed: false", "error: false, changed: true", "error: false, changed: false")
}

// TestConsoleKeepsNothing runs texts one after the other, and the same ones again, and writes on desks
// that are returned.
func TestConsoleKeepsNothing(t *testing.T) {
	texts := []string{"", "show", "opposite", "network 2:\nformula 0\nwiring 3:\ntable 1:00", "wire 0 1\nbreak 0\nexchange", strings.Repeat("x", 4001), "reset", strings.Repeat("\n", 41)}
	for _, first := range texts {
		outputs := impl.Console(first)
		for _, other := range texts {
			impl.Console(other)
			d, accepted := impl.DeskAfter(other)
			if accepted {
				wantNewMemory(t, other, d)
			}
			if again := impl.Console(first); again != outputs {
				t.Errorf("Console(%.60q) after %.60q: %q, want %q", first, other, again, outputs)
			}
		}
	}
}

// TestPartsTellTheSame leads tables over formulas and networks, and wirings over networks, back to
// tables.
func TestPartsTellTheSame(t *testing.T) {
	kinds := map[string]int{}
	for _, x := range tablesWithPatterns() {
		text := textWith(x)
		outputs := strings.Split(impl.Console(fmt.Sprintf("table %s\nsafe\ntable 1:00\nvalues %d\nsteady\nbuild\ntable 1:00\nbetween %d", text, x.Inputs, x.Inputs)), "\n")
		if outputs[1] == "error" {
			kinds["no formula"]++
			continue
		}
		if outputs[3] != text || outputs[4] != "yes" {
			t.Errorf("%s leads to the safe formula %s, and back to %s, steady: %s", text, outputs[1], outputs[3], outputs[4])
		}
		if outputs[5] == "error" {
			kinds["no network"]++
			continue
		}
		if outputs[7] != text {
			t.Errorf("%s leads to the network %s, and back to %s", text, outputs[5], outputs[7])
		}
		kinds["a formula and a network"]++
	}
	for _, x := range fewWirings() {
		outputs := strings.Split(impl.Console(fmt.Sprintf("wiring %s\nlamps\npoints\nbetween %d", textOfWiring(x), len(x.Switches))), "\n")
		if outputs[2] == "error" {
			kinds["no network of a wiring"]++
			continue
		}
		if outputs[1] != outputs[3] {
			t.Errorf("%s leads to %s, but over %s to %s", outputs[0], outputs[1], outputs[2], outputs[3])
		}
		kinds["a network of a wiring"]++
	}
	wantKinds(t, kinds, "no formula", "no network", "a formula and a network", "no network of a wiring", "a network of a wiring")
}
