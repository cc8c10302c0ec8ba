package tests

import (
	"fmt"
	"math"
	"math/rand"
	"slices"
	"testing"

	"loop.example/g01392/impl"
)

// shapes are all numbers of inputs and of relays that a circuit can have.
var shapes = [][2]int64{{1, 1}, {1, 2}, {1, 3}, {1, 4}, {2, 1}, {2, 2}, {2, 3}, {3, 1}, {3, 2}, {4, 1}}

// circuitWith returns the circuit of n inputs and m relays whose aims are told by inputs and a state.
func circuitWith(n int64, m int64, aim func(inputs int64, state int64) int64) impl.Circuit {
	x := impl.Circuit{Inputs: n}
	for relay := range m {
		coil := tableWith(n+m, func(row []int64) int64 {
			return digitsOf(aim(numberOf(row[:n]), numberOf(row[n:])), m)[relay]
		})
		x.Coils = append(x.Coils, coil.Values)
	}
	return x
}

// circuitOfAims returns the circuit whose aims are told by a list for each inputs.
func circuitOfAims(n int64, m int64, aims [][]int64) impl.Circuit {
	return circuitWith(n, m, func(inputs int64, state int64) int64 { return aims[inputs][state] })
}

// holding returns the circuit in which all states are steady.
func holding(n int64, m int64) impl.Circuit {
	return circuitWith(n, m, func(inputs int64, state int64) int64 { return state })
}

// turning returns the circuit in which all relays always will change.
func turning(n int64, m int64) impl.Circuit {
	return circuitWith(n, m, func(inputs int64, state int64) int64 { return 1<<m - 1 - state })
}

// pulling returns the circuit whose relays always pull.
func pulling(n int64, m int64) impl.Circuit {
	return circuitWith(n, m, func(inputs int64, state int64) int64 { return 1<<m - 1 })
}

// holder is the circuit of the document's example, and racers two relays each of which pulls if the
// other one has not.
func holder() impl.Circuit { return impl.Circuit{Inputs: 1, Coils: []int64{14}} }
func racers() impl.Circuit { return impl.Circuit{Inputs: 1, Coils: []int64{15, 51}} }

// copyOfCircuit returns a circuit with new memory.
func copyOfCircuit(x impl.Circuit) impl.Circuit {
	return impl.Circuit{Inputs: x.Inputs, Coils: slices.Clone(x.Coils)}
}

// sameCircuit reports whether two circuits are equal.
func sameCircuit(x impl.Circuit, y impl.Circuit) bool {
	return x.Inputs == y.Inputs && slices.Equal(x.Coils, y.Coils)
}

// sampleCircuits returns all circuits of one relay and one or two inputs, and for all shapes the
// ones with coils 0 and the greatest ones, with relays that hold and that turn, and others from a
// fixed sequence: such that mostly hold, such that mostly pull, and such of which nothing is known.
func sampleCircuits() []impl.Circuit {
	var list []impl.Circuit
	for coil := range int64(16) {
		list = append(list, impl.Circuit{Inputs: 1, Coils: []int64{coil}})
	}
	for coil := range int64(256) {
		list = append(list, impl.Circuit{Inputs: 2, Coils: []int64{coil}})
	}
	source := rand.New(rand.NewSource(6))
	for _, shape := range shapes {
		n, m := shape[0], shape[1]
		list = append(list, pulling(n, m), holding(n, m), turning(n, m), impl.Circuit{Inputs: n, Coils: make([]int64, m)})
		for range 40 {
			list = append(list, circuitWith(n, m, func(inputs int64, state int64) int64 {
				return source.Int63n(1 << m)
			}), circuitWith(n, m, func(inputs int64, state int64) int64 {
				return state ^ source.Int63n(1<<m)&source.Int63n(1<<m)&source.Int63n(1<<m)
			}), circuitWith(n, m, func(inputs int64, state int64) int64 {
				return state ^ source.Int63n(1<<m)&source.Int63n(1<<m)
			}), circuitWith(n, m, func(inputs int64, state int64) int64 {
				return source.Int63n(1<<m) | source.Int63n(1<<m) | source.Int63n(1<<m)
			}))
		}
	}
	return list
}

// noCircuits are values of the type Circuit that are no circuits.
func noCircuits() []impl.Circuit {
	list := []impl.Circuit{
		{}, {Inputs: 1}, {Inputs: 4}, {Inputs: 5}, {Inputs: 1, Coils: []int64{}},
		{Inputs: 0, Coils: []int64{0}}, {Inputs: 0, Coils: []int64{0, 1}}, {Inputs: 0, Coils: []int64{0, 0, 0, 0}}, {Inputs: -1, Coils: []int64{0}}, {Inputs: -1, Coils: []int64{0, 1}}, {Inputs: -1, Coils: []int64{0, 0, 0}}, {Inputs: 5, Coils: []int64{0}}, {Inputs: 6, Coils: []int64{0}},
		// One relay, or one input, beyond MaxInputs together, or beyond MaxRelays.
		{Inputs: 4, Coils: []int64{0, 0}}, {Inputs: 3, Coils: []int64{0, 0, 0}}, {Inputs: 2, Coils: []int64{0, 0, 0, 0}}, {Inputs: 1, Coils: []int64{0, 0, 0, 0, 0}}, {Inputs: 4, Coils: make([]int64, 4)},
		{Inputs: 1, Coils: make([]int64, 6)}, {Inputs: 1, Coils: make([]int64, 64)}, {Inputs: 1, Coils: make([]int64, 1000)}, {Inputs: -4, Coils: make([]int64, 5)}, {Inputs: -1, Coils: make([]int64, 6)}, {Inputs: 0, Coils: make([]int64, 5)},
	}
	for _, far := range farNumbers {
		list = append(list, impl.Circuit{Inputs: far}, impl.Circuit{Inputs: far, Coils: []int64{0}}, impl.Circuit{Inputs: far, Coils: []int64{0, 0, 0, 0}}, impl.Circuit{Inputs: far, Coils: []int64{far}})
	}
	for _, shape := range shapes {
		rows := int64(1) << (shape[0] + shape[1])
		for place := range shape[1] {
			for _, coil := range []int64{-1, -2, 1 << rows, 1<<rows + 1, 1 << 33, 1 << 62, math.MinInt64, math.MinInt64 + 1, math.MaxInt64 - 1, math.MaxInt64} {
				x := holding(shape[0], shape[1])
				x.Coils[place] = coil
				list = append(list, x)
			}
		}
	}
	return list
}

func TestMaxRelays(t *testing.T) {
	var asByte byte = impl.MaxRelays
	var asFloat float64 = impl.MaxRelays
	if asByte != 4 || asFloat != 4 {
		t.Errorf("MaxRelays %d", asByte)
	}
}

func TestIsCircuit(t *testing.T) {
	for _, x := range sampleCircuits() {
		if !impl.IsCircuit(x) {
			t.Errorf("IsCircuit(%v) is false", x)
		}
	}
	for n := int64(-1); n <= 7; n++ {
		for m := range 8 {
			want := slices.Contains(shapes, [2]int64{n, int64(m)})
			if got := impl.IsCircuit(impl.Circuit{Inputs: n, Coils: make([]int64, m)}); got != want {
				t.Errorf("IsCircuit with %d inputs and %d relays = %v", n, m, got)
			}
		}
	}
	for _, x := range noCircuits() {
		if impl.IsCircuit(x) {
			t.Errorf("IsCircuit(%v) is true", x)
		}
	}
}

// knownWays has for inputs of a circuit the aims of all states, and whether one single step or more
// lead from a state to another one, or back to it.
type knownWays struct {
	aims  []int64
	leads [16][16]bool
}

// relayWaysWith returns the ways for inputs, found by joining ways through each state after the other.
func relayWaysWith(x impl.Circuit, inputs int64) knownWays {
	m := int64(len(x.Coils))
	var known knownWays
	for state := range int64(1) << m {
		row := numberOf(append(digitsOf(inputs, x.Inputs), digitsOf(state, m)...))
		var aim []int64
		for _, coil := range x.Coils {
			aim = append(aim, valuesOf(impl.Table{Inputs: x.Inputs + m, Values: coil})[row])
		}
		known.aims = append(known.aims, numberOf(aim))
		for relay, digit := range digitsOf(state, m) {
			if aim[relay] != digit {
				next := digitsOf(state, m)
				next[relay] = aim[relay]
				known.leads[state][numberOf(next)] = true
			}
		}
	}
	for through := range known.aims {
		for from := range known.aims {
			for to := range known.aims {
				if known.leads[from][through] && known.leads[through][to] {
					known.leads[from][to] = true
				}
			}
		}
	}
	return known
}

// states returns the states for which something holds, ascending.
func (known knownWays) states(holds func(state int64) bool) []int64 {
	var list []int64
	for state := range int64(len(known.aims)) {
		if holds(state) {
			list = append(list, state)
		}
	}
	return list
}

// changing returns the relays that will change.
func (known knownWays) changing(state int64) []int64 {
	var list []int64
	for relay := range int64(4) {
		if digitsOf(state, 4)[relay] != digitsOf(known.aims[state], 4)[relay] {
			list = append(list, relay)
		}
	}
	return list
}

// steady returns the steady states.
func (known knownWays) steady() []int64 {
	return known.states(func(state int64) bool { return known.aims[state] == state })
}

// reached returns the states that are reached.
func (known knownWays) reached(from int64) []int64 {
	return known.states(func(state int64) bool { return state == from || known.leads[from][state] })
}

// ends returns the steady states that are reached.
func (known knownWays) ends(from int64) []int64 {
	return known.states(func(state int64) bool {
		return known.aims[state] == state && slices.Contains(known.reached(from), state)
	})
}

// roundabouts returns the states that are reached and to which a way goes round.
func (known knownWays) roundabouts(from int64) []int64 {
	return known.states(func(state int64) bool {
		return known.leads[state][state] && slices.Contains(known.reached(from), state)
	})
}

// lost returns the states that are reached and from which no steady state is.
func (known knownWays) lost(from int64) []int64 {
	return known.states(func(state int64) bool {
		return len(known.ends(state)) == 0 && slices.Contains(known.reached(from), state)
	})
}

// critical reports whether there is a critical race.
func (known knownWays) critical(from int64) bool {
	race := len(known.changing(from)) >= 2
	return race && (len(known.ends(from)) > 1 || len(known.lost(from)) > 0 || len(known.roundabouts(from)) > 0)
}

// wantBool fails unless an answer and a code are as wanted.
func wantBool(t *testing.T, call string, got bool, code int64, want bool) {
	t.Helper()
	if got != want || code != impl.ErrNone {
		t.Errorf("%s = %v, %d, want %v, 0", call, got, code, want)
	}
}

func TestRelays(t *testing.T) {
	kinds := map[string]int{}
	for _, x := range sampleCircuits() {
		var places [][]int64
		for inputs := range int64(1) << x.Inputs {
			known := relayWaysWith(x, inputs)
			list, code := impl.SteadyStates(x, inputs)
			wantList(t, fmt.Sprintf("SteadyStates(%v, %d)", x, inputs), list, code, known.steady())
			kinds[fmt.Sprintf("%d steady", min(len(list), 2))]++
			for state := range int64(1) << len(x.Coils) {
				call := fmt.Sprintf("(%v, %d, %d)", x, inputs, state)
				aim, code := impl.AimOf(x, inputs, state)
				wantNumber(t, "AimOf"+call, aim, code, known.aims[state])
				list, code := impl.RelaysToChange(x, inputs, state)
				wantList(t, "RelaysToChange"+call, list, code, known.changing(state))
				kinds[fmt.Sprintf("%d to change", min(len(list), 2))]++
				list, code = impl.StatesReached(x, inputs, state)
				wantList(t, "StatesReached"+call, list, code, known.reached(state))
				list, code = impl.EndsOf(x, inputs, state)
				wantList(t, "EndsOf"+call, list, code, known.ends(state))
				critical, code := impl.IsCritical(x, inputs, state)
				wantBool(t, "IsCritical"+call, critical, code, known.critical(state))
				if known.critical(state) {
					places = append(places, []int64{inputs, state})
				}
				kinds[kindOfState(known, state)]++
			}
		}
		list, code := impl.CriticalPlaces(x)
		wantLists(t, fmt.Sprintf("CriticalPlaces(%v)", x), list, code, places)
	}
	for _, kind := range []string{
		"0 steady", "1 steady", "2 steady", "0 to change", "1 to change", "2 to change",
		"a race, one end", "a race, several ends", "a race, no end", "a race, one end, going round", "a race, one end, going round, lost", "a race, several ends, going round",
		"no race, one end", "no race, several ends", "no race, no end", "no race, one end, going round",
	} {
		if kinds[kind] < 20 {
			t.Errorf("%s: just %d samples", kind, kinds[kind])
		}
	}
}

// kindOfState tells what is known of a state.
func kindOfState(known knownWays, state int64) string {
	kind := "no race"
	if len(known.changing(state)) >= 2 {
		kind = "a race"
	}
	switch len(known.ends(state)) {
	case 0:
		return kind + ", no end"
	case 1:
		kind += ", one end"
	default:
		kind += ", several ends"
	}
	if len(known.roundabouts(state)) > 0 {
		kind += ", going round"
	}
	if len(known.lost(state)) > 0 {
		kind += ", lost"
	}
	return kind
}

// TestRowsOfCoils checks which row a coil is asked for: the inputs come ahead of the state.
func TestRowsOfCoils(t *testing.T) {
	for _, shape := range shapes {
		n, m := shape[0], shape[1]
		for row := range int64(1) << (n + m) {
			for relay := range m {
				x := impl.Circuit{Inputs: n, Coils: make([]int64, m)}
				x.Coils[relay] = 1 << row
				for inputs := range int64(1) << n {
					for state := range int64(1) << m {
						want := int64(0)
						if inputs == row%(1<<n) && state == row/(1<<n) {
							want = 1 << relay
						}
						aim, code := impl.AimOf(x, inputs, state)
						wantNumber(t, fmt.Sprintf("AimOf(%v, %d, %d)", x, inputs, state), aim, code, want)
					}
				}
			}
		}
	}
}

func TestAimOfByHand(t *testing.T) {
	for _, c := range []struct {
		x                   impl.Circuit
		inputs, state, want int64
	}{
		{holder(), 0, 0, 0}, {holder(), 1, 0, 1}, {holder(), 0, 1, 1}, {holder(), 1, 1, 1},
		{racers(), 0, 0, 3}, {racers(), 1, 0, 3}, {racers(), 0, 1, 1}, {racers(), 1, 1, 1}, {racers(), 0, 2, 2}, {racers(), 1, 2, 2}, {racers(), 0, 3, 0}, {racers(), 1, 3, 0},
		{impl.Circuit{Inputs: 1, Coils: []int64{0}}, 1, 1, 0}, {impl.Circuit{Inputs: 1, Coils: []int64{15}}, 0, 0, 1},
		{impl.Circuit{Inputs: 4, Coils: []int64{1 << 31}}, 15, 1, 1}, {impl.Circuit{Inputs: 4, Coils: []int64{1 << 31}}, 15, 0, 0}, {impl.Circuit{Inputs: 4, Coils: []int64{1 << 31}}, 14, 1, 0}, {impl.Circuit{Inputs: 4, Coils: []int64{1<<32 - 1}}, 0, 0, 1}, {impl.Circuit{Inputs: 4, Coils: []int64{1 << 15}}, 15, 0, 1},
		{impl.Circuit{Inputs: 1, Coils: []int64{1, 1 << 31, 0, 1<<32 - 1}}, 0, 0, 9}, {impl.Circuit{Inputs: 1, Coils: []int64{1, 1 << 31, 0, 1<<32 - 1}}, 1, 15, 10}, {impl.Circuit{Inputs: 1, Coils: []int64{1, 1 << 31, 0, 1<<32 - 1}}, 1, 0, 8},
		{impl.Circuit{Inputs: 2, Coils: []int64{32}}, 1, 1, 1}, {impl.Circuit{Inputs: 2, Coils: []int64{32}}, 3, 0, 0}, {impl.Circuit{Inputs: 1, Coils: []int64{32, 64}}, 1, 2, 1}, {impl.Circuit{Inputs: 1, Coils: []int64{32, 64}}, 0, 3, 2},
	} {
		aim, code := impl.AimOf(c.x, c.inputs, c.state)
		wantNumber(t, fmt.Sprintf("AimOf(%v, %d, %d)", c.x, c.inputs, c.state), aim, code, c.want)
	}
}

// knownRelays has what is worked out by hand for one of the inputs of a circuit: the aims, and then
// for each state the states and the steady states that are reached, and the states with a critical
// race.
type knownRelays struct {
	name     string
	m        int64
	aims     []int64
	reached  [][]int64
	ends     [][]int64
	critical []int64
}

var relaysByHand = []knownRelays{
	{"held", 2, []int64{0, 1, 2, 3}, [][]int64{{0}, {1}, {2}, {3}}, [][]int64{{0}, {1}, {2}, {3}}, nil},
	{"a buzzer", 1, []int64{1, 0}, [][]int64{{0, 1}, {0, 1}}, [][]int64{{}, {}}, nil},
	{"pulled", 1, []int64{1, 1}, [][]int64{{0, 1}, {1}}, [][]int64{{1}, {1}}, nil},
	{"two steady states", 2, []int64{3, 1, 2, 0}, [][]int64{{0, 1, 2}, {1}, {2}, {1, 2, 3}}, [][]int64{{1, 2}, {1}, {2}, {1, 2}}, []int64{0, 3}},
	{"a race that is not critical", 2, []int64{3, 3, 3, 3}, [][]int64{{0, 1, 2, 3}, {1, 3}, {2, 3}, {3}}, [][]int64{{3}, {3}, {3}, {3}}, nil},
	{"a ring without a race", 2, []int64{1, 3, 0, 2}, [][]int64{{0, 1, 2, 3}, {0, 1, 2, 3}, {0, 1, 2, 3}, {0, 1, 2, 3}}, [][]int64{{}, {}, {}, {}}, nil},
	{"races all round", 2, []int64{3, 2, 1, 0}, [][]int64{{0, 1, 2, 3}, {0, 1, 2, 3}, {0, 1, 2, 3}, {0, 1, 2, 3}}, [][]int64{{}, {}, {}, {}}, []int64{0, 1, 2, 3}},
	{"states from which no steady state is reached", 2, []int64{3, 3, 2, 1}, [][]int64{{0, 1, 2, 3}, {1, 3}, {2}, {1, 3}}, [][]int64{{2}, {}, {2}, {}}, []int64{0}},
	{"a way round beside the steady state of all", 2, []int64{3, 3, 2, 0}, [][]int64{{0, 1, 2, 3}, {1, 2, 3}, {2}, {1, 2, 3}}, [][]int64{{2}, {2}, {2}, {2}}, []int64{0, 3}},
	{"a way round back to the race alone", 2, []int64{3, 0, 2, 3}, [][]int64{{0, 1, 2}, {0, 1, 2}, {2}, {3}}, [][]int64{{2}, {2}, {2}, {3}}, []int64{0}},
	{"a ring that is left at a race", 2, []int64{1, 2, 0, 3}, [][]int64{{0, 1, 3}, {0, 1, 3}, {0, 1, 2, 3}, {3}}, [][]int64{{3}, {3}, {3}, {3}}, []int64{1}},
	{"a state without a race ahead of two steady states", 3, []int64{1, 7, 2, 3, 4, 5, 6, 7}, [][]int64{{0, 1, 3, 5}, {1, 3, 5}, {2}, {3}, {4}, {5}, {6}, {7}}, [][]int64{{3, 5}, {3, 5}, {2}, {3}, {4}, {5}, {6}, {7}}, []int64{1}},
	{"three steady states", 3, []int64{7, 1, 2, 3, 4, 5, 6, 0}, [][]int64{{0, 1, 2, 4}, {1}, {2}, {3}, {4}, {5}, {6}, {3, 5, 6, 7}}, [][]int64{{1, 2, 4}, {1}, {2}, {3}, {4}, {5}, {6}, {3, 5, 6}}, []int64{0, 7}},
	{"a race of two of three", 3, []int64{6, 7, 6, 7, 6, 7, 6, 7}, [][]int64{{0, 2, 4, 6}, {1, 3, 5, 7}, {2, 6}, {3, 7}, {4, 6}, {5, 7}, {6}, {7}}, [][]int64{{6}, {7}, {6}, {7}, {6}, {7}, {6}, {7}}, nil},
	{"a race to one steady state by ways of different length", 3, []int64{3, 5, 6, 3, 7, 7, 7, 7}, [][]int64{{0, 1, 2, 5, 6, 7}, {1, 5, 7}, {2, 6, 7}, {3}, {4, 5, 6, 7}, {5, 7}, {6, 7}, {7}}, [][]int64{{7}, {7}, {7}, {3}, {7}, {7}, {7}, {7}}, nil},
}

// TestRelaysByHand gives the aims to one of the inputs, while for all others the relays are held.
func TestRelaysByHand(t *testing.T) {
	for _, c := range relaysByHand {
		for n := int64(1); n <= 5-c.m && n <= 4; n++ {
			for _, at := range []int64{0, 1, 1<<n - 1} {
				x := circuitWith(n, c.m, func(inputs int64, state int64) int64 {
					if inputs == at {
						return c.aims[state]
					}
					return state
				})
				wantRelays(t, c, x, at)
				wantHeld(t, c, x, 1<<n-1-at)
			}
		}
	}
}

// wantRelays fails unless a circuit has at some inputs what is known of it.
func wantRelays(t *testing.T, c knownRelays, x impl.Circuit, at int64) {
	t.Helper()
	var steady []int64
	var places [][]int64
	for state, aim := range c.aims {
		call := fmt.Sprintf("%s: of (%v, %d, %d)", c.name, x, at, state)
		got, code := impl.AimOf(x, at, int64(state))
		wantNumber(t, call+" AimOf", got, code, aim)
		list, code := impl.StatesReached(x, at, int64(state))
		wantList(t, call+" StatesReached", list, code, c.reached[state])
		list, code = impl.EndsOf(x, at, int64(state))
		wantList(t, call+" EndsOf", list, code, c.ends[state])
		critical, code := impl.IsCritical(x, at, int64(state))
		wantBool(t, call+" IsCritical", critical, code, slices.Contains(c.critical, int64(state)))
		if critical {
			places = append(places, []int64{at, int64(state)})
		}
		if aim == int64(state) {
			steady = append(steady, aim)
		}
	}
	list, code := impl.SteadyStates(x, at)
	wantList(t, c.name+": SteadyStates", list, code, steady)
	lists, code := impl.CriticalPlaces(x)
	wantLists(t, c.name+": CriticalPlaces", lists, code, places)
}

// wantHeld fails unless all states are steady at some inputs, and reach just themselves.
func wantHeld(t *testing.T, c knownRelays, x impl.Circuit, at int64) {
	t.Helper()
	for state := range int64(len(c.aims)) {
		list, code := impl.RelaysToChange(x, at, state)
		wantList(t, c.name+": RelaysToChange where relays are held", list, code, nil)
		list, code = impl.StatesReached(x, at, state)
		wantList(t, c.name+": StatesReached where relays are held", list, code, []int64{state})
		list, code = impl.EndsOf(x, at, state)
		wantList(t, c.name+": EndsOf where relays are held", list, code, []int64{state})
	}
}

func TestRelaysToChangeByHand(t *testing.T) {
	x := circuitOfAims(1, 4, [][]int64{
		{0, 0, 0, 0, 15, 0, 0, 0, 8, 0, 0, 9, 0, 0, 0, 15},
		{15, 5, 2, 12, 4, 10, 6, 8, 8, 1, 10, 4, 0, 13, 1, 0},
	})
	for inputs, lists := range [][][]int64{
		{{}, {0}, {1}, {0, 1}, {0, 1, 3}, {0, 2}, {1, 2}, {0, 1, 2}, {}, {0, 3}, {1, 3}, {1}, {2, 3}, {0, 2, 3}, {1, 2, 3}, {}},
		{{0, 1, 2, 3}, {2}, {}, {0, 1, 2, 3}, {}, {0, 1, 2, 3}, {}, {0, 1, 2, 3}, {}, {3}, {}, {0, 1, 2, 3}, {2, 3}, {}, {0, 1, 2, 3}, {0, 1, 2, 3}},
	} {
		for state, want := range lists {
			list, code := impl.RelaysToChange(x, int64(inputs), int64(state))
			wantList(t, fmt.Sprintf("RelaysToChange at %d, %d", inputs, state), list, code, want)
		}
	}
}

// TestFourRelaysByHand looks at circuits in which the greatest number of states is reached.
func TestFourRelaysByHand(t *testing.T) {
	all := []int64{0, 1, 2, 3, 4, 5, 6, 7, 8, 9, 10, 11, 12, 13, 14, 15}
	for inputs := range int64(2) {
		list, code := impl.StatesReached(pulling(1, 4), inputs, 0)
		wantList(t, "StatesReached of relays that pull", list, code, all)
		list, code = impl.StatesReached(pulling(1, 4), inputs, 5)
		wantList(t, "StatesReached of relays that pull, from 5", list, code, []int64{5, 7, 13, 15})
		list, code = impl.StatesReached(pulling(1, 4), inputs, 15)
		wantList(t, "StatesReached of relays that pull, from 15", list, code, []int64{15})
		list, code = impl.EndsOf(pulling(1, 4), inputs, 0)
		wantList(t, "EndsOf of relays that pull", list, code, []int64{15})
		list, code = impl.SteadyStates(holding(1, 4), inputs)
		wantList(t, "SteadyStates of relays that hold", list, code, all)
		list, code = impl.SteadyStates(turning(1, 4), inputs)
		wantList(t, "SteadyStates of relays that turn", list, code, nil)
		for state := range int64(16) {
			list, code = impl.StatesReached(turning(1, 4), inputs, state)
			wantList(t, "StatesReached of relays that turn", list, code, all)
			list, code = impl.EndsOf(turning(1, 4), inputs, state)
			wantList(t, "EndsOf of relays that turn", list, code, nil)
		}
	}
	lists, code := impl.CriticalPlaces(pulling(1, 4))
	wantLists(t, "CriticalPlaces of relays that pull", lists, code, nil)
	lists, code = impl.CriticalPlaces(holding(1, 4))
	wantLists(t, "CriticalPlaces of relays that hold", lists, code, nil)
	lists, code = impl.CriticalPlaces(turning(4, 1))
	wantLists(t, "CriticalPlaces of one relay that turns", lists, code, nil)
	var places [][]int64
	for inputs := range int64(2) {
		for _, state := range all {
			places = append(places, []int64{inputs, state})
		}
	}
	lists, code = impl.CriticalPlaces(turning(1, 4))
	wantLists(t, "CriticalPlaces of relays that turn", lists, code, places)
	lists, code = impl.CriticalPlaces(racers())
	wantLists(t, "CriticalPlaces of two relays that race", lists, code, [][]int64{{0, 0}, {0, 3}, {1, 0}, {1, 3}})
}

func TestWholeSteps(t *testing.T) {
	for at, x := range sampleCircuits() {
		for inputs := range int64(1) << x.Inputs {
			known := relayWaysWith(x, inputs)
			for state := range int64(1) << len(x.Coils) {
				k := []int64{0, 1, 2, 5, 17, 99, 100}[(int64(at)+state)%7]
				want := []int64{state}
				for range k {
					want = append(want, known.aims[want[len(want)-1]])
				}
				list, code := impl.WholeSteps(x, inputs, state, k)
				wantList(t, fmt.Sprintf("WholeSteps(%v, %d, %d, %d)", x, inputs, state, k), list, code, want)
			}
		}
	}
}

func TestWholeStepsByHand(t *testing.T) {
	ring := circuitOfAims(1, 2, [][]int64{{1, 3, 0, 2}, {3, 3, 3, 3}})
	for _, c := range []struct {
		x                impl.Circuit
		inputs, state, k int64
		want             []int64
	}{
		{racers(), 0, 0, 2, []int64{0, 3, 0}}, {racers(), 1, 3, 3, []int64{3, 0, 3, 0}}, {racers(), 1, 2, 3, []int64{2, 2, 2, 2}}, {racers(), 1, 2, 0, []int64{2}},
		{holder(), 0, 0, 1, []int64{0, 0}}, {holder(), 1, 0, 2, []int64{0, 1, 1}}, {holder(), 0, 1, 2, []int64{1, 1, 1}}, {ring, 0, 0, 6, []int64{0, 1, 3, 2, 0, 1, 3}}, {ring, 1, 0, 3, []int64{0, 3, 3, 3}},
		{racers(), 0, 0, 99, slices.Repeat([]int64{0, 3}, 50)}, {racers(), 0, 0, 100, append(slices.Repeat([]int64{0, 3}, 50), 0)}, {ring, 0, 2, 100, append(slices.Repeat([]int64{2, 0, 1, 3}, 25), 2)}, {holding(1, 4), 1, 15, 100, slices.Repeat([]int64{15}, 101)},
	} {
		list, code := impl.WholeSteps(c.x, c.inputs, c.state, c.k)
		wantList(t, fmt.Sprintf("WholeSteps(%v, %d, %d, %d)", c.x, c.inputs, c.state, c.k), list, code, c.want)
	}
	for _, k := range append([]int64{101, 102, 200}, farBeyond(100)...) {
		list, code := impl.WholeSteps(racers(), 0, 0, k)
		wantListError(t, fmt.Sprintf("WholeSteps with %d steps", k), list, code, impl.ErrRange)
	}
}

// farBeyond returns numbers that are less than 0, and such as are greater than a limit.
func farBeyond(limit int64) []int64 {
	list := []int64{limit + 1, limit + 2}
	for _, far := range append(beyond(100), farNumbers...) {
		if far < 0 || far > limit {
			list = append(list, far)
		}
	}
	return list
}

// runWith returns the states of a run, and ErrNone, or the error that ends it.
func runWith(known []knownWays, state int64, list []int64) ([]int64, int64) {
	var states []int64
	for _, inputs := range list {
		ends := known[inputs].ends(state)
		if len(ends) != 1 || len(known[inputs].roundabouts(state)) > 0 {
			return nil, impl.ErrState
		}
		state = ends[0]
		states = append(states, state)
	}
	return states, impl.ErrNone
}

// wantRun fails unless RunInputs returns what is told.
func wantRun(t *testing.T, x impl.Circuit, state int64, list []int64, want []int64, wanted int64) {
	t.Helper()
	call := fmt.Sprintf("RunInputs(%v, %d, %v)", x, state, list)
	got, code := impl.RunInputs(x, state, list)
	if wanted != impl.ErrNone {
		wantListError(t, call, got, code, wanted)
		return
	}
	wantList(t, call, got, code, want)
}

func TestRunInputs(t *testing.T) {
	source := rand.New(rand.NewSource(7))
	done, stopped := 0, 0
	for _, x := range sampleCircuits() {
		var known []knownWays
		for inputs := range int64(1) << x.Inputs {
			known = append(known, relayWaysWith(x, inputs))
		}
		for state := range int64(1) << len(x.Coils) {
			list := make([]int64, []int{1, 2, 3, 8, 100}[source.Intn(5)])
			for i := range list {
				list[i] = source.Int63n(1 << x.Inputs)
			}
			want, wanted := runWith(known, state, list)
			wantRun(t, x, state, list, want, wanted)
			if wanted == impl.ErrNone {
				done++
			} else {
				stopped++
			}
		}
	}
	if done < 500 || stopped < 500 {
		t.Errorf("%d runs to the end, %d that stop", done, stopped)
	}
}

func TestRunInputsByHand(t *testing.T) {
	// A relay that the input 0 pulls and the input 1 drops, the input 0 being the stronger one.
	latch := impl.Circuit{Inputs: 2, Coils: []int64{186}}
	// Two relays that turn once for each two changes of the input.
	divider := circuitOfAims(1, 2, [][]int64{{0, 3, 0, 3}, {1, 1, 2, 2}})
	for _, c := range []struct {
		x          impl.Circuit
		state      int64
		list, want []int64
	}{
		{holder(), 0, []int64{1, 0}, []int64{1, 1}}, // the example of the document
		{holder(), 0, nil, nil}, {holder(), 1, []int64{}, nil}, {holder(), 0, []int64{0}, []int64{0}}, {holder(), 1, []int64{0, 0}, []int64{1, 1}}, {holder(), 0, []int64{0, 0, 1, 0}, []int64{0, 0, 1, 1}},
		{latch, 0, []int64{0, 1, 0, 2, 0, 3, 0}, []int64{0, 1, 1, 0, 0, 1, 1}}, {latch, 1, []int64{0, 2, 2, 1, 3}, []int64{1, 0, 0, 1, 1}},
		{divider, 0, []int64{1, 0, 1, 0, 1}, []int64{1, 3, 2, 0, 1}}, {divider, 2, []int64{0, 0, 1, 1, 0}, []int64{0, 0, 1, 1, 3}}, {divider, 0, slices.Repeat([]int64{1, 0}, 50), slices.Repeat([]int64{1, 3, 2, 0}, 25)},
		{pulling(1, 4), 0, []int64{0, 1}, []int64{15, 15}}, {racers(), 1, []int64{0, 1, 0}, []int64{1, 1, 1}}, {racers(), 2, []int64{1}, []int64{2}}, {holding(4, 1), 1, []int64{15, 0, 7}, []int64{1, 1, 1}},
	} {
		wantRun(t, c.x, c.state, c.list, c.want, impl.ErrNone)
	}
	wantRun(t, holding(1, 1), 1, make([]int64, 100), slices.Repeat([]int64{1}, 100), impl.ErrNone)
	for _, count := range []int{101, 102, 1000, 100000} {
		wantRun(t, holding(1, 1), 1, make([]int64, count), nil, impl.ErrRange)
	}
}

// TestRunInputsStops looks at all reasons for which a run stops, at its first inputs, between, and at
// its last ones.
func TestRunInputsStops(t *testing.T) {
	for _, c := range []struct {
		name  string
		aims  []int64
		state int64
	}{
		{"two steady states behind a race", []int64{3, 1, 2, 0}, 0}, {"two steady states behind a race, from above", []int64{3, 1, 2, 0}, 3},
		{"no steady state", []int64{1, 3, 0, 2}, 2}, {"no steady state, but races", []int64{3, 2, 1, 0}, 1}, {"a steady state that is not reached", []int64{0, 3, 2, 1}, 1},
		{"a way round beside one steady state", []int64{3, 3, 2, 0}, 0}, {"a way round ahead of one steady state, without a race", []int64{3, 3, 2, 0}, 1}, {"a way round without a steady state at its side", []int64{3, 3, 2, 1}, 0}, {"a ring that can be left", []int64{1, 2, 0, 3}, 0},
	} {
		// The relays are held at the inputs 0, and at the inputs 1 they have the aims.
		x := circuitOfAims(1, 2, [][]int64{{0, 1, 2, 3}, c.aims})
		for _, list := range [][]int64{{1}, {0, 1}, {1, 0}, {0, 0, 1, 0, 0}, append(make([]int64, 99), 1)} {
			if got, code := impl.RunInputs(x, c.state, list); len(got) != 0 || code != impl.ErrState {
				t.Errorf("%s: RunInputs over %v = %v, %d, want ErrState", c.name, list, got, code)
			}
		}
		wantRun(t, x, c.state, []int64{0, 0}, []int64{c.state, c.state}, impl.ErrNone)
	}
	ahead := circuitOfAims(1, 3, [][]int64{{0, 1, 2, 3, 4, 5, 6, 7}, {1, 7, 2, 3, 4, 5, 6, 7}})
	wantRun(t, ahead, 0, []int64{0, 1}, nil, impl.ErrState)
	wantRun(t, ahead, 3, []int64{0, 1}, []int64{3, 3}, impl.ErrNone)
}

// TestRunInputsErrors checks that what is out of range is found ahead of where a run stops.
func TestRunInputsErrors(t *testing.T) {
	for _, shape := range shapes {
		n, m := shape[0], shape[1]
		for _, x := range []impl.Circuit{holding(n, m), turning(n, m)} {
			for _, state := range farBeyond(1<<m - 1) {
				wantRun(t, x, state, nil, nil, impl.ErrRange)
				wantRun(t, x, state, []int64{0}, nil, impl.ErrRange)
			}
			for _, inputs := range farBeyond(1<<n - 1) {
				for _, list := range [][]int64{{inputs}, {0, inputs}, {inputs, 0}, {0, 1, inputs, 0}, append(make([]int64, 99), inputs)} {
					wantRun(t, x, 0, list, nil, impl.ErrRange)
				}
			}
			wantRun(t, x, 0, make([]int64, 101), nil, impl.ErrRange)
			wantRun(t, x, -1, []int64{-1}, nil, impl.ErrRange)
		}
		wantRun(t, turning(n, m), 1, []int64{0}, nil, impl.ErrState)
	}
}

func TestChangesBetween(t *testing.T) {
	several, none := 0, 0
	for _, x := range sampleCircuits() {
		for inputs := range int64(1) << x.Inputs {
			for others := range int64(1) << x.Inputs {
				known := relayWaysWith(x, others)
				var want [][]int64
				for _, state := range relayWaysWith(x, inputs).steady() {
					ends := known.ends(state)
					want = append(want, append([]int64{state}, ends...))
					if len(ends) > 1 {
						several++
					} else if len(ends) == 0 {
						none++
					}
				}
				lists, code := impl.ChangesBetween(x, inputs, others)
				wantLists(t, fmt.Sprintf("ChangesBetween(%v, %d, %d)", x, inputs, others), lists, code, want)
			}
		}
	}
	if several < 20 || none < 20 {
		t.Errorf("%d changes to several steady states, %d to none", several, none)
	}
}

func TestChangesBetweenByHand(t *testing.T) {
	x := circuitOfAims(2, 2, [][]int64{{0, 1, 2, 3}, {3, 1, 2, 0}, {1, 3, 0, 2}, {3, 3, 2, 1}})
	for _, c := range []struct {
		x              impl.Circuit
		inputs, others int64
		want           [][]int64
	}{
		{holder(), 0, 1, [][]int64{{0, 1}, {1, 1}}}, {holder(), 1, 0, [][]int64{{1, 1}}}, {holder(), 0, 0, [][]int64{{0, 0}, {1, 1}}}, {holder(), 1, 1, [][]int64{{1, 1}}},
		{x, 0, 0, [][]int64{{0, 0}, {1, 1}, {2, 2}, {3, 3}}}, {x, 0, 1, [][]int64{{0, 1, 2}, {1, 1}, {2, 2}, {3, 1, 2}}}, {x, 0, 2, [][]int64{{0}, {1}, {2}, {3}}}, {x, 0, 3, [][]int64{{0, 2}, {1}, {2, 2}, {3}}},
		{x, 1, 0, [][]int64{{1, 1}, {2, 2}}}, {x, 1, 1, [][]int64{{1, 1}, {2, 2}}}, {x, 1, 2, [][]int64{{1}, {2}}}, {x, 1, 3, [][]int64{{1}, {2, 2}}},
		{x, 2, 0, nil}, {x, 2, 1, nil}, {x, 2, 2, nil}, {x, 2, 3, nil}, {x, 3, 0, [][]int64{{2, 2}}}, {x, 3, 2, [][]int64{{2}}},
	} {
		lists, code := impl.ChangesBetween(c.x, c.inputs, c.others)
		wantLists(t, fmt.Sprintf("ChangesBetween(%v, %d, %d)", c.x, c.inputs, c.others), lists, code, c.want)
	}
}

// exchangedState returns the state in which each relay i has the number p(i).
func exchangedState(p []int64, state int64) int64 {
	digits := make([]int64, len(p))
	for i, digit := range digitsOf(state, int64(len(p))) {
		digits[p[i]] = digit
	}
	return numberOf(digits)
}

// exchangedStates returns states exchanged one by one, in order.
func exchangedStates(p []int64, states []int64) []int64 {
	var list []int64
	for _, state := range states {
		list = append(list, exchangedState(p, state))
	}
	slices.Sort(list)
	return list
}

// backOrder returns the order that leads back what p leads on.
func backOrder(p []int64) []int64 {
	back := make([]int64, len(p))
	for i, number := range p {
		back[number] = int64(i)
	}
	return back
}

// wantCircuit fails unless a circuit and a code are as wanted.
func wantCircuit(t *testing.T, call string, got impl.Circuit, code int64, want impl.Circuit) {
	t.Helper()
	if !sameCircuit(got, want) || code != impl.ErrNone {
		t.Errorf("%s = %v, %d, want %v, 0", call, got, code, want)
	}
}

// wantCircuitError fails unless the code is as wanted and the circuit beside it the zero value.
func wantCircuitError(t *testing.T, call string, got impl.Circuit, code int64, want int64) {
	t.Helper()
	if !sameCircuit(got, impl.Circuit{}) || code != want {
		t.Errorf("%s = %v, %d, want the zero value, %d", call, got, code, want)
	}
}

func TestExchangeRelays(t *testing.T) {
	for at, x := range sampleCircuits() {
		m := int64(len(x.Coils))
		var aims [][]int64
		for inputs := range int64(1) << x.Inputs {
			aims = append(aims, relayWaysWith(x, inputs).aims)
		}
		for i, p := range allOrders(m) {
			if m == 4 && i%5 != at%5 {
				continue
			}
			back := backOrder(p)
			want := circuitWith(x.Inputs, m, func(inputs int64, state int64) int64 {
				return exchangedState(p, aims[inputs][exchangedState(back, state)])
			})
			got, code := impl.ExchangeRelays(x, p)
			wantCircuit(t, fmt.Sprintf("ExchangeRelays(%v, %v)", x, p), got, code, want)
			again, code := impl.ExchangeRelays(got, back)
			wantCircuit(t, fmt.Sprintf("ExchangeRelays(%v, %v) and back", x, p), again, code, x)
		}
	}
}

func TestExchangeRelaysByHand(t *testing.T) {
	// The numbers of rows from those of one relay's contact alone: of the relays 0 to 3.
	contact := func(relay int64) int64 {
		return tableWith(5, func(row []int64) int64 { return row[1+relay] }).Values
	}
	chain := impl.Circuit{Inputs: 1, Coils: []int64{0xAAAAAAAA, contact(0), contact(1), contact(2)}}
	for _, c := range []struct {
		x    impl.Circuit
		p    []int64
		want impl.Circuit
	}{
		{holder(), []int64{0}, holder()}, {racers(), []int64{0, 1}, racers()}, {racers(), []int64{1, 0}, racers()},
		// The relay 0 pulls with the input, the relay 1 with the relay 0.
		{impl.Circuit{Inputs: 1, Coils: []int64{0xAA, 0xCC}}, []int64{1, 0}, impl.Circuit{Inputs: 1, Coils: []int64{0xF0, 0xAA}}},
		{impl.Circuit{Inputs: 1, Coils: []int64{0xAA, 0xCC}}, []int64{0, 1}, impl.Circuit{Inputs: 1, Coils: []int64{0xAA, 0xCC}}},
		{impl.Circuit{Inputs: 1, Coils: []int64{0, 255}}, []int64{1, 0}, impl.Circuit{Inputs: 1, Coils: []int64{255, 0}}},
		{impl.Circuit{Inputs: 3, Coils: []int64{0, 1<<32 - 1}}, []int64{1, 0}, impl.Circuit{Inputs: 3, Coils: []int64{1<<32 - 1, 0}}},
		// Three relays go round: 0 to 1, 1 to 2, 2 to 0.
		{impl.Circuit{Inputs: 1, Coils: []int64{0xAAAA, 0xCCCC, 0xF0F0}}, []int64{1, 2, 0}, impl.Circuit{Inputs: 1, Coils: []int64{0xFF00, 0xAAAA, 0xF0F0}}},
		{impl.Circuit{Inputs: 1, Coils: []int64{0xAAAA, 0xCCCC, 0xF0F0}}, []int64{2, 0, 1}, impl.Circuit{Inputs: 1, Coils: []int64{0xFF00, 0xCCCC, 0xAAAA}}},
		{chain, []int64{0, 1, 2, 3}, chain},
		{chain, []int64{1, 2, 3, 0}, impl.Circuit{Inputs: 1, Coils: []int64{contact(3), 0xAAAAAAAA, contact(1), contact(2)}}},
		{chain, []int64{3, 0, 1, 2}, impl.Circuit{Inputs: 1, Coils: []int64{contact(3), contact(0), contact(1), 0xAAAAAAAA}}},
		{chain, []int64{0, 3, 2, 1}, impl.Circuit{Inputs: 1, Coils: []int64{0xAAAAAAAA, contact(2), contact(3), contact(0)}}},
	} {
		got, code := impl.ExchangeRelays(c.x, c.p)
		wantCircuit(t, fmt.Sprintf("ExchangeRelays(%v, %v)", c.x, c.p), got, code, c.want)
	}
}

// badOrders returns lists that are no order of the numbers 0 to m - 1.
func badOrders(m int64) [][]int64 {
	good := []int64{}
	for i := range m {
		good = append(good, i)
	}
	lists := [][]int64{nil, {}, good[1:], good[:m-1], append(slices.Clone(good), m), append(slices.Clone(good), 0), append(slices.Clone(good), m-1), slices.Repeat(good, 2), make([]int64, 1000)}
	for place := range m {
		for _, bad := range append(farBeyond(m-1), m) {
			list := slices.Clone(good)
			list[place] = bad
			lists = append(lists, list)
		}
		for other := range m {
			if other != place {
				list := slices.Clone(good)
				list[place] = other
				lists = append(lists, list)
			}
		}
	}
	return lists
}

func TestExchangeRelaysErrors(t *testing.T) {
	for _, shape := range shapes {
		for _, p := range badOrders(shape[1]) {
			for _, x := range []impl.Circuit{holding(shape[0], shape[1]), turning(shape[0], shape[1])} {
				got, code := impl.ExchangeRelays(x, p)
				wantCircuitError(t, fmt.Sprintf("ExchangeRelays(%v, %v)", x, p), got, code, impl.ErrRange)
			}
		}
	}
}

// situationCalls are the functions that take inputs and a state, each with a report whether its
// result is the zero value.
var situationCalls = map[string]func(x impl.Circuit, inputs int64, state int64) (bool, int64){
	"AimOf": func(x impl.Circuit, inputs int64, state int64) (bool, int64) {
		aim, code := impl.AimOf(x, inputs, state)
		return aim == 0, code
	},
	"RelaysToChange": func(x impl.Circuit, inputs int64, state int64) (bool, int64) {
		list, code := impl.RelaysToChange(x, inputs, state)
		return len(list) == 0, code
	},
	"StatesReached": func(x impl.Circuit, inputs int64, state int64) (bool, int64) {
		list, code := impl.StatesReached(x, inputs, state)
		return len(list) == 0, code
	},
	"EndsOf": func(x impl.Circuit, inputs int64, state int64) (bool, int64) {
		list, code := impl.EndsOf(x, inputs, state)
		return len(list) == 0, code
	},
	"IsCritical": func(x impl.Circuit, inputs int64, state int64) (bool, int64) {
		critical, code := impl.IsCritical(x, inputs, state)
		return !critical, code
	},
	"WholeSteps": func(x impl.Circuit, inputs int64, state int64) (bool, int64) {
		list, code := impl.WholeSteps(x, inputs, state, 3)
		return len(list) == 0, code
	},
	"WholeSteps of too many": func(x impl.Circuit, inputs int64, state int64) (bool, int64) {
		list, code := impl.WholeSteps(x, inputs, state, 101)
		return len(list) == 0, code
	},
	"RunInputs": func(x impl.Circuit, inputs int64, state int64) (bool, int64) {
		list, code := impl.RunInputs(x, state, []int64{inputs})
		return len(list) == 0, code
	},
	"RunInputs over too many": func(x impl.Circuit, inputs int64, state int64) (bool, int64) {
		list, code := impl.RunInputs(x, state, slices.Repeat([]int64{inputs}, 101))
		return len(list) == 0, code
	},
}

// TestSituationsOutOfRange looks at inputs and states at the ends of their ranges, and one beyond.
func TestSituationsOutOfRange(t *testing.T) {
	for _, shape := range shapes {
		n, m := shape[0], shape[1]
		for _, x := range []impl.Circuit{pulling(n, m), holding(n, m), turning(n, m)} {
			var wrong [][2]int64
			for _, far := range farBeyond(1<<n - 1) {
				wrong = append(wrong, [2]int64{far, 0}, [2]int64{far, 1<<m - 1}, [2]int64{far, far}, [2]int64{far, -1}, [2]int64{far, 1 << m})
			}
			for _, far := range farBeyond(1<<m - 1) {
				wrong = append(wrong, [2]int64{0, far}, [2]int64{1<<n - 1, far}, [2]int64{-1, far}, [2]int64{1 << n, far})
			}
			for name, run := range situationCalls {
				for _, at := range wrong {
					if zero, code := run(x, at[0], at[1]); !zero || code != impl.ErrRange {
						t.Errorf("%s(%v, %d, %d): zero %v, code %d, want ErrRange", name, x, at[0], at[1], zero, code)
					}
				}
			}
			for _, inputs := range []int64{0, 1<<n - 1} {
				for _, state := range []int64{0, 1<<m - 1} {
					if _, code := impl.AimOf(x, inputs, state); code != impl.ErrNone {
						t.Errorf("AimOf(%v, %d, %d): code %d", x, inputs, state, code)
					}
				}
			}
		}
	}
}

func TestInputsOutOfRange(t *testing.T) {
	for _, shape := range shapes {
		n, m := shape[0], shape[1]
		for _, x := range []impl.Circuit{pulling(n, m), holding(n, m), turning(n, m)} {
			for _, far := range farBeyond(1<<n - 1) {
				list, code := impl.SteadyStates(x, far)
				wantListError(t, fmt.Sprintf("SteadyStates(%v, %d)", x, far), list, code, impl.ErrRange)
				for _, pair := range [][2]int64{{far, 0}, {0, far}, {far, far}, {far, 1<<n - 1}, {1<<n - 1, far}, {far, -1}} {
					lists, code := impl.ChangesBetween(x, pair[0], pair[1])
					if len(lists) != 0 || code != impl.ErrRange {
						t.Errorf("ChangesBetween(%v, %d, %d) = %v, %d, want ErrRange", x, pair[0], pair[1], lists, code)
					}
				}
			}
		}
	}
}

// TestNoCircuits gives what is no circuit, with all else as it should be or not.
func TestNoCircuits(t *testing.T) {
	for _, x := range noCircuits() {
		for name, run := range situationCalls {
			for _, at := range [][2]int64{{0, 0}, {1, 1}, {-1, 0}, {0, -1}, {0, 1 << 40}, {1 << 40, 0}, {math.MinInt64, math.MaxInt64}, {math.MaxInt64, math.MinInt64}} {
				if zero, code := run(x, at[0], at[1]); !zero || code != impl.ErrInvalid {
					t.Errorf("%s(%v, %d, %d): zero %v, code %d, want ErrInvalid", name, x, at[0], at[1], zero, code)
				}
			}
		}
		for _, k := range []int64{0, 100, 101, -1, math.MaxInt64, math.MinInt64} {
			list, code := impl.SteadyStates(x, k)
			wantListError(t, fmt.Sprintf("SteadyStates(%v, %d)", x, k), list, code, impl.ErrInvalid)
			list, code = impl.WholeSteps(x, 0, 0, k)
			wantListError(t, fmt.Sprintf("WholeSteps(%v, 0, 0, %d)", x, k), list, code, impl.ErrInvalid)
			lists, code := impl.ChangesBetween(x, k, 0)
			if len(lists) != 0 || code != impl.ErrInvalid {
				t.Errorf("ChangesBetween(%v, %d, 0) = %v, %d, want ErrInvalid", x, k, lists, code)
			}
		}
		wantRun(t, x, 0, nil, nil, impl.ErrInvalid)
		lists, code := impl.CriticalPlaces(x)
		if len(lists) != 0 || code != impl.ErrInvalid {
			t.Errorf("CriticalPlaces(%v) = %v, %d, want ErrInvalid", x, lists, code)
		}
		for _, p := range [][]int64{nil, {0}, {1, 0}, {0, 1, 2, 3}, {0, 0}, {-1}, {0, 1, 2, 3, 4}, make([]int64, 1000)} {
			got, code := impl.ExchangeRelays(x, p)
			wantCircuitError(t, fmt.Sprintf("ExchangeRelays(%v, %v)", x, p), got, code, impl.ErrInvalid)
		}
	}
}

// TestRelayArgumentsStay checks that no function writes on an argument, or behind its lists.
func TestRelayArgumentsStay(t *testing.T) {
	for _, x := range append(sampleCircuits(), noCircuits()...) {
		coils, unchanged := withSpare(x.Coils)
		y := impl.Circuit{Inputs: x.Inputs, Coils: coils}
		list, stayed := withSpare([]int64{1, 0, 1})
		impl.IsCircuit(y)
		for _, run := range situationCalls {
			run(y, 0, 0)
			run(y, 1, 1)
		}
		impl.SteadyStates(y, 0)
		impl.CriticalPlaces(y)
		impl.ChangesBetween(y, 0, 1)
		impl.RunInputs(y, 0, list)
		if !unchanged() || !stayed() {
			t.Errorf("%v or %v is changed, or what is behind them", x, list)
		}
		if !impl.IsCircuit(y) {
			continue
		}
		for _, order := range append(allOrders(int64(len(coils))), badOrders(int64(len(coils)))...) {
			p, kept := withSpare(order)
			impl.ExchangeRelays(y, p)
			if !unchanged() || !kept() {
				t.Errorf("%v or %v is changed by ExchangeRelays, or what is behind them", x, order)
			}
		}
	}
}

// TestRelayResultsAreNew writes on results, and looks at what else is there, and asks again.
func TestRelayResultsAreNew(t *testing.T) {
	calls := map[string]func(x impl.Circuit, list []int64) [][]int64{
		"RelaysToChange": func(x impl.Circuit, list []int64) [][]int64 {
			got, _ := impl.RelaysToChange(x, 0, 0)
			return [][]int64{got}
		},
		"SteadyStates": func(x impl.Circuit, list []int64) [][]int64 {
			got, _ := impl.SteadyStates(x, 1)
			return [][]int64{got}
		},
		"StatesReached": func(x impl.Circuit, list []int64) [][]int64 {
			got, _ := impl.StatesReached(x, 0, 0)
			return [][]int64{got}
		},
		"EndsOf": func(x impl.Circuit, list []int64) [][]int64 { got, _ := impl.EndsOf(x, 0, 0); return [][]int64{got} },
		"WholeSteps": func(x impl.Circuit, list []int64) [][]int64 {
			got, _ := impl.WholeSteps(x, 0, 0, 5)
			return [][]int64{got}
		},
		"RunInputs": func(x impl.Circuit, list []int64) [][]int64 {
			got, _ := impl.RunInputs(x, 1, list)
			return [][]int64{got}
		},
		"CriticalPlaces": func(x impl.Circuit, list []int64) [][]int64 { got, _ := impl.CriticalPlaces(x); return got },
		"ChangesBetween": func(x impl.Circuit, list []int64) [][]int64 { got, _ := impl.ChangesBetween(x, 0, 1); return got },
		"ExchangeRelays": func(x impl.Circuit, list []int64) [][]int64 {
			got, _ := impl.ExchangeRelays(x, list)
			return [][]int64{got.Coils}
		},
	}
	circuits := []impl.Circuit{racers(), holding(1, 2), turning(1, 2), pulling(2, 2), circuitOfAims(1, 2, [][]int64{{0, 1, 2, 3}, {3, 1, 2, 0}})}
	for name, run := range calls {
		for _, x := range circuits {
			for _, list := range [][]int64{{0, 1}, {1, 0}} {
				coils, unchanged := withSpare(x.Coils)
				given, stayed := withSpare(list)
				y := impl.Circuit{Inputs: x.Inputs, Coils: coils}
				first := run(y, given)
				want := copyOfLists(first)
				wantApart(t, fmt.Sprintf("%s of %v", name, x), first)
				for i := range first {
					scribble(first[i])
					first[i] = nil
				}
				if !unchanged() || !stayed() {
					t.Errorf("%s of %v and %v shares memory with an argument", name, x, list)
				}
				if again := run(y, given); !sameLists(again, want) {
					t.Errorf("%s of %v and %v once more: %v, want %v", name, x, list, again, want)
				}
			}
		}
	}
}

// TestPromise6 checks the sixth promise by the functions of the chapter alone.
func TestPromise6(t *testing.T) {
	for _, x := range sampleCircuits() {
		for inputs := range int64(1) << x.Inputs {
			steady, code := impl.SteadyStates(x, inputs)
			if code != impl.ErrNone {
				t.Fatalf("SteadyStates(%v, %d): code %d", x, inputs, code)
			}
			for state := range int64(1) << len(x.Coils) {
				aim, code := impl.AimOf(x, inputs, state)
				if code != impl.ErrNone || (aim == state) != slices.Contains(steady, state) {
					t.Errorf("the state %d of %v at %d has the aim %d, code %d, the steady ones are %v", state, x, inputs, aim, code, steady)
				}
				wantRunOneByOne(t, x, state, []int64{inputs, 0, 1, inputs, 1})
			}
		}
	}
}

// wantRunOneByOne fails unless a run reaches steady states, each from the one before, and stops at
// the first inputs for which it stops.
func wantRunOneByOne(t *testing.T, x impl.Circuit, state int64, list []int64) {
	t.Helper()
	run, code := impl.RunInputs(x, state, list)
	var one []int64
	at := state
	for _, inputs := range list {
		next, stop := impl.RunInputs(x, at, []int64{inputs})
		if stop != impl.ErrNone {
			wantListError(t, fmt.Sprintf("RunInputs(%v, %d, %v)", x, state, list), run, code, stop)
			return
		}
		ends, _ := impl.EndsOf(x, inputs, at)
		steady, _ := impl.SteadyStates(x, inputs)
		if !slices.Equal(ends, next) || !slices.Contains(steady, next[0]) {
			t.Errorf("RunInputs(%v, %d, [%d]) = %v, the ends are %v, the steady states %v", x, at, inputs, next, ends, steady)
		}
		at = next[0]
		one = append(one, at)
	}
	wantList(t, fmt.Sprintf("RunInputs(%v, %d, %v)", x, state, list), run, code, one)
}

// TestSteadyStatesReachThemselves checks that steady states reach themselves alone, and that states
// without a race change one relay at most, and reach what is behind that.
func TestSteadyStatesReachThemselves(t *testing.T) {
	for _, x := range sampleCircuits() {
		for inputs := range int64(1) << x.Inputs {
			for state := range int64(1) << len(x.Coils) {
				call := fmt.Sprintf("(%v, %d, %d)", x, inputs, state)
				relays, _ := impl.RelaysToChange(x, inputs, state)
				reached, code := impl.StatesReached(x, inputs, state)
				critical, _ := impl.IsCritical(x, inputs, state)
				if critical && len(relays) < 2 {
					t.Errorf("IsCritical%s, but only %v will change", call, relays)
				}
				switch len(relays) {
				case 0:
					wantList(t, "StatesReached"+call, reached, code, []int64{state})
				case 1:
					aim, _ := impl.AimOf(x, inputs, state)
					behind, _ := impl.StatesReached(x, inputs, aim)
					if aim != state^1<<relays[0] {
						t.Errorf("AimOf%s = %d, but only %v will change", call, aim, relays)
					}
					if !slices.Contains(behind, state) {
						behind = append(behind, state)
						slices.Sort(behind)
					}
					wantList(t, "StatesReached"+call, reached, code, behind)
				}
			}
		}
	}
}

// TestExchangedCircuits checks that circuits with exchanged relays reach the exchanged states.
func TestExchangedCircuits(t *testing.T) {
	for at, x := range sampleCircuits() {
		orders := allOrders(int64(len(x.Coils)))
		p := orders[at%len(orders)]
		y, code := impl.ExchangeRelays(x, p)
		if code != impl.ErrNone || !impl.IsCircuit(y) {
			t.Fatalf("ExchangeRelays(%v, %v) = %v, %d", x, p, y, code)
		}
		for inputs := range int64(1) << x.Inputs {
			for state := range int64(1) << len(x.Coils) {
				call := fmt.Sprintf("(%v, %d, %d) exchanged by %v", x, inputs, state, p)
				want, _ := impl.StatesReached(x, inputs, state)
				got, code := impl.StatesReached(y, inputs, exchangedState(p, state))
				wantList(t, "StatesReached"+call, got, code, exchangedStates(p, want))
				want, _ = impl.EndsOf(x, inputs, state)
				got, code = impl.EndsOf(y, inputs, exchangedState(p, state))
				wantList(t, "EndsOf"+call, got, code, exchangedStates(p, want))
				critical, _ := impl.IsCritical(x, inputs, state)
				yes, code := impl.IsCritical(y, inputs, exchangedState(p, state))
				wantBool(t, "IsCritical"+call, yes, code, critical)
			}
		}
	}
}
