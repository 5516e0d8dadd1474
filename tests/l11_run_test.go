package tests

import (
	"fmt"
	"math"
	"math/rand/v2"
	"reflect"
	"slices"
	"testing"

	"loop.example/g00514/impl"
)

// words returns the list of the digits of s.
func words(s string) []int {
	var list []int
	for _, c := range []byte(s) {
		list = append(list, int(c-'0'))
	}
	return list
}

// statesOf returns all inputs of a program with the given number of variables.
func statesOf(number int) [][]int {
	states := [][]int{nil}
	for range number {
		var longer [][]int
		for _, state := range states {
			for word := range 4 {
				longer = append(longer, append(slices.Clone(state), word))
			}
		}
		states = longer
	}
	return states
}

// parsed returns the valid program with the source code s.
func parsed(t *testing.T, s string) impl.Program {
	t.Helper()
	p, bad := impl.ParseProgram(s)
	if bad >= 0 || !impl.IsValidProgram(p) {
		t.Fatalf("ParseProgram(%q) reports an error at %d", s, bad)
	}
	return p
}

func ended(state, output string, cost int) impl.Outcome {
	return impl.Outcome{Status: impl.RunEnded, State: words(state), Output: words(output), Cost: cost}
}

func trapped(state, output string, cost int) impl.Outcome {
	return impl.Outcome{Status: impl.RunTrapped, State: words(state), Output: words(output), Cost: cost}
}

func outOfFuel(state, output string, cost int) impl.Outcome {
	return impl.Outcome{Status: impl.RunFuel, State: words(state), Output: words(output), Cost: cost}
}

func sameOutcome(a, b impl.Outcome) bool {
	return a.Status == b.Status && slices.Equal(a.State, b.State) && slices.Equal(a.Output, b.Output) && a.Cost == b.Cost
}

func wantOutcome(t *testing.T, p impl.Program, input []int, fuel int, want impl.Outcome) {
	t.Helper()
	if got := impl.RunProgram(p, input, fuel); !sameOutcome(got, want) {
		t.Fatalf("RunProgram(%.400s, %v, %d) = %v; want %v", fmt.Sprint(p), input, fuel, got, want)
	}
}

func wantBadRun(t *testing.T, p impl.Program, input []int, fuel int) {
	t.Helper()
	wantOutcome(t, p, input, fuel, impl.Outcome{})
	if fuel == impl.MaxFuel {
		wantTerminates(t, p, input, false)
	}
}

func wantTerminates(t *testing.T, p impl.Program, input []int, want bool) {
	t.Helper()
	if impl.Terminates(p, input) != want {
		t.Fatalf("Terminates(%.400s, %v) is %v", fmt.Sprint(p), input, !want)
	}
}

// wantRun takes the outcome of a run that ends or is trapped, and checks it for each fuel that is enough. It also checks that less fuel is not enough.
func wantRun(t *testing.T, source, input string, want impl.Outcome) {
	t.Helper()
	p := parsed(t, source)
	for fuel := range impl.MaxFuel + 1 {
		if fuel >= want.Cost {
			wantOutcome(t, p, words(input), fuel, want)
		} else if got := impl.RunProgram(p, words(input), fuel); got.Status != impl.RunFuel || got.Cost != fuel {
			t.Fatalf("RunProgram(%q, %s, %d) = %v; want RunFuel", source, input, fuel, got)
		}
	}
	wantTerminates(t, p, words(input), true)
}

// wantEndless takes a run that never ends and emits nothing, whose state never changes.
func wantEndless(t *testing.T, source, input string) {
	t.Helper()
	p := parsed(t, source)
	for fuel := range impl.MaxFuel + 1 {
		wantOutcome(t, p, words(input), fuel, outOfFuel(input, "", fuel))
	}
	wantTerminates(t, p, words(input), false)
}

// stepByStep is a second interpreter. It keeps a list of the statements that are left, and returns the outcome after each number of evaluations, up to the given one; the last one is that of all greater numbers, too, if it is not RunFuel.
func stepByStep(p impl.Program, input []int, most int) []impl.Outcome {
	var all []impl.Outcome
	now := impl.Outcome{Status: impl.RunFuel, State: slices.Clone(input)}
	left := p.Body
	for len(left) > 0 && now.Cost < most {
		all = append(all, now)
		s, rest := left[0], left[1:]
		values := map[string]int{}
		for i, name := range p.Vars {
			values[name] = now.State[i]
		}
		value := valueOf(s.Expr, values)
		now.Cost++
		if value < 0 {
			now.Status = impl.RunTrapped
			return append(all, now)
		}
		left = rest
		switch {
		case s.Kind == impl.StAssign:
			now.State = slices.Clone(now.State)
			now.State[slices.Index(p.Vars, s.Name)] = value
		case s.Kind == impl.StEmit:
			now.Output = slices.Concat(now.Output, []int{value})
		case s.Kind == impl.StIf && value == 0:
			left = slices.Concat(s.Else, rest)
		case s.Kind == impl.StIf:
			left = slices.Concat(s.Body, rest)
		case value != 0:
			left = slices.Concat(s.Body, []impl.Stmt{s}, rest)
		}
	}
	if len(left) == 0 {
		now.Status = impl.RunEnded
	}
	return append(all, now)
}

// wantStepByStep compares a run with the second interpreter's, for the fuels around its end and some others, and returns its outcome with MaxFuel.
func wantStepByStep(t *testing.T, p impl.Program, input []int, fuels ...int) impl.Outcome {
	t.Helper()
	all := stepByStep(p, input, impl.MaxFuel)
	last := all[len(all)-1]
	for _, fuel := range append(fuels, 0, last.Cost-1, last.Cost, last.Cost+1, impl.MaxFuel-1, impl.MaxFuel) {
		if 0 <= fuel && fuel <= impl.MaxFuel {
			wantOutcome(t, p, input, fuel, all[min(fuel, len(all)-1)])
		}
	}
	wantTerminates(t, p, input, last.Status != impl.RunFuel)
	return last
}

// runningPrograms are valid, and most of them loop.
func runningPrograms(t *testing.T) []impl.Program {
	var all []impl.Program
	for _, s := range []string{
		"vars ;", "vars x ;", "vars x y ;",
		"vars ; emit 1 ; emit 2 ;", "vars ; while 1 { }", "vars ; while 0 { }", "vars ; if 1 { } emit 3 ;", "vars ; emit 1 / 0 ;",
		"vars x ; while x < 3 { x := x + 1 ; } emit x ;",
		"vars x ; x := 3 ; emit x ;",
		"vars x ; emit 1 ; x := 1 / x ;",
		"vars x ; while x { x := x - 1 ; emit 1 / x ; }",
		"vars x ; while 1 / x { emit x ; x := x - 1 ; }",
		"vars x ; while 1 { x := x + 1 ; emit x ; }",
		"vars x y ; x := x + y ; emit x ;",
		"vars x y ; if y { x := x + 1 ; } else { x := x - 1 ; } emit x ;",
		"vars x y ; while y { y := y - 1 ; x := x + 1 ; }",
		"vars y x ; while y { y := y - 1 ; x := x + 1 ; emit x * y ; }",
		"vars x y ; while x < 3 { y := 0 ; while y < 3 { y := y + 1 ; emit x + y ; } x := x + 1 ; }",
		"vars x y ; while y < 3 | x < 3 { if x < 3 { x := x + 1 ; } else { x := 0 ; y := y + 1 ; } emit x ; emit y ; }",
		"vars x y ; while y < 3 { while x < 3 { x := x + 1 ; emit 1 ; emit x ; emit y ; } y := y + 1 ; x := 0 ; }",
		"vars x y ; while !(x == 3 & y == 3) { x := x + 1 ; y := y + !x ; emit x ; emit y ; emit 1 ; emit x == y ; emit x * y ; }",
		"vars x y ; while !(x == y) { if x < y { y := y - x ; } else { x := x - y ; } }",
		"vars x y ; while x { while y { y := y - 1 ; emit x / y ; } x := x - 1 ; }",
	} {
		all = append(all, parsed(t, s))
	}
	return append(all, ordinaryPrograms()...)
}

func TestConstantsOfRuns(t *testing.T) {
	if impl.MaxFuel != 400 {
		t.Error("MaxFuel is another number")
	}
	if impl.RunBad != 0 || impl.RunEnded != 1 || impl.RunTrapped != 2 || impl.RunFuel != 3 {
		t.Error("the status of a run has another number")
	}
}

func TestRunsOfTheDocument(t *testing.T) {
	count := "vars x ; while x < 3 { x := x + 1 ; } emit x ;"
	for x, cost := range []int{8, 6, 4, 2} {
		wantRun(t, count, fmt.Sprint(x), ended("3", "3", cost))
	}
	wantRun(t, "vars x y ; x := x + y ; emit x ;", "32", ended("12", "1", 2))
	wantRun(t, "vars x y ; if y { x := x + 1 ; } else { x := x + 1 ; } emit x ;", "30", ended("00", "0", 3))
	wantRun(t, "vars x y ; if y { emit x ; } emit 1 ;", "20", ended("20", "1", 2))
	wantRun(t, "vars x y ; if y { emit x ; } emit 1 ;", "21", ended("21", "21", 3))
	wantRun(t, "vars x y ; while y { y := y - 1 ; x := x + 1 ; }", "23", ended("10", "", 10))
	wantRun(t, "vars x ; x := x / 2 ;", "3", ended("1", "", 1))
}

func TestAssignments(t *testing.T) {
	wantRun(t, "vars x ; x := 2 ;", "0", ended("2", "", 1))
	wantRun(t, "vars x ; x := 0 ;", "3", ended("0", "", 1))
	wantRun(t, "vars x ; x := x ;", "3", ended("3", "", 1))
	wantRun(t, "vars x ; x := x + 1 ;", "3", ended("0", "", 1))
	wantRun(t, "vars x ; x := x - 1 ;", "0", ended("3", "", 1))
	wantRun(t, "vars x ; x := x * 3 ;", "3", ended("1", "", 1))
	wantRun(t, "vars x ; x := x + 1 ; x := x + 1 ; x := x + 1 ;", "0", ended("3", "", 3))
	// The state has the order of the variables, which need not be that of their names.
	wantRun(t, "vars x y ; x := 1 ;", "23", ended("13", "", 1))
	wantRun(t, "vars x y ; y := 1 ;", "23", ended("21", "", 1))
	wantRun(t, "vars y x ; x := 1 ;", "23", ended("21", "", 1))
	wantRun(t, "vars y x ; y := 1 ;", "23", ended("13", "", 1))
	wantRun(t, "vars y x ; emit x ; emit y ;", "23", ended("23", "32", 2))
	// An assignment evaluates with the values before it, and the next one with those behind it.
	wantRun(t, "vars x y ; x := y ; y := x ;", "12", ended("22", "", 2))
	wantRun(t, "vars x y ; x := x + y ; y := x + y ; x := x - y ;", "12", ended("21", "", 3))
	wantRun(t, "vars x y ; x := x - y ; y := x + y ; x := y - x ;", "31", ended("13", "", 3))
}

func TestEmissions(t *testing.T) {
	wantRun(t, "vars ; emit 0 ;", "", ended("", "0", 1))
	wantRun(t, "vars ; emit 3 ; emit 0 ; emit 0 ; emit 2 ; emit 1 ;", "", ended("", "30021", 5))
	wantRun(t, "vars x ; emit x ;", "2", ended("2", "2", 1))
	wantRun(t, "vars x ; emit x ; x := x + 1 ; emit x ; x := x + 1 ; emit x ;", "2", ended("0", "230", 5))
	wantRun(t, "vars x ; emit x + 3 ; emit x ;", "2", ended("2", "12", 2))
	wantRun(t, "vars x y ; emit x < y ; emit y < x ; emit x == y ; emit !x ;", "12", ended("12", "1000", 4))
	// Each repetition of a loop emits again.
	wantRun(t, "vars x ; while x { emit x ; x := x - 1 ; emit x ; }", "3", ended("0", "322110", 13))
	wantRun(t, "vars x ; while x { emit 1 ; x := x - 1 ; }", "3", ended("0", "111", 10))
}

func TestChoices(t *testing.T) {
	// Every word other than 0 chooses Body.
	for x := range 4 {
		input, chosen := fmt.Sprint(x), "2"
		if x > 0 {
			chosen = "1"
		}
		wantRun(t, "vars x ; if x { emit 1 ; } else { emit 2 ; }", input, ended(input, chosen, 2))
		wantRun(t, "vars x ; if x { emit 1 ; } else { emit 2 ; } emit 3 ;", input, ended(input, chosen+"3", 3))
		wantRun(t, "vars x ; if !x { emit 2 ; } else { emit 1 ; } emit 3 ;", input, ended(input, chosen+"3", 3))
	}
	// Only the chosen block costs something, and an empty one costs nothing.
	wantRun(t, "vars x ; if x { }", "0", ended("0", "", 1))
	wantRun(t, "vars x ; if x { }", "2", ended("2", "", 1))
	wantRun(t, "vars x ; if x { } emit 1 ;", "2", ended("2", "1", 2))
	wantRun(t, "vars x ; if x { emit 1 ; emit 2 ; }", "0", ended("0", "", 1))
	wantRun(t, "vars x ; if x { emit 1 ; emit 2 ; }", "1", ended("1", "12", 3))
	wantRun(t, "vars x ; if x { } else { emit 1 ; emit 2 ; }", "0", ended("0", "12", 3))
	wantRun(t, "vars x ; if x { } else { emit 1 ; emit 2 ; }", "1", ended("1", "", 1))
	wantRun(t, "vars x ; if x { emit 1 ; } else { emit 1 ; emit 2 ; emit 3 ; }", "0", ended("0", "123", 4))
	wantRun(t, "vars x ; if x { emit 1 ; } else { emit 1 ; emit 2 ; emit 3 ; }", "3", ended("3", "1", 2))
	// It is evaluated once, whatever its block assigns.
	wantRun(t, "vars x ; if x { x := 0 ; emit 1 ; } else { x := 1 ; emit 2 ; }", "0", ended("1", "2", 3))
	wantRun(t, "vars x ; if x { x := 0 ; emit 1 ; } else { x := 1 ; emit 2 ; }", "1", ended("0", "1", 3))
	nested := "vars x y ; if x { if y { emit 3 ; } else { emit 2 ; } } else { if y { emit 1 ; } else { emit 0 ; } } emit x ;"
	for i, input := range []string{"00", "01", "10", "11"} {
		wantRun(t, nested, input, ended(input, fmt.Sprint(i)+input[:1], 4))
	}
	wantRun(t, "vars x y ; if x { if y { emit 1 ; } emit 2 ; } emit 3 ;", "10", ended("10", "23", 4))
	wantRun(t, "vars x y ; if x { if y { emit 1 ; } emit 2 ; } emit 3 ;", "11", ended("11", "123", 5))
	wantRun(t, "vars x y ; if x { if y { emit 1 ; } emit 2 ; } emit 3 ;", "01", ended("01", "3", 2))
}

func TestLoops(t *testing.T) {
	// Expr is evaluated once more than Body is executed.
	wantRun(t, "vars ; while 0 { }", "", ended("", "", 1))
	wantRun(t, "vars ; while 0 { emit 1 ; } emit 2 ;", "", ended("", "2", 2))
	for x := range 4 {
		input := fmt.Sprint(x)
		wantRun(t, "vars x ; while x { x := x - 1 ; }", input, ended("0", "", 1+2*x))
		wantRun(t, "vars x ; while x { x := x - 1 ; } emit x ;", input, ended("0", "0", 2+2*x))
		wantRun(t, "vars x ; while x { x := x + 1 ; }", input, ended("0", "", 1+2*((4-x)%4)))
		wantRun(t, "vars x ; while x { x := 0 ; }", input, ended("0", "", 1+2*min(x, 1)))
		wantRun(t, "vars x ; while x { if x { x := x - 1 ; } }", input, ended("0", "", 1+3*x))
		wantRun(t, "vars x ; while x { if !x { } else { } x := x - 1 ; }", input, ended("0", "", 1+3*x))
	}
	// A loop in a loop is begun again, and costs its last evaluation each time.
	wantRun(t, "vars x y ; while x { while y { y := y - 1 ; } x := x - 1 ; }", "22", ended("00", "", 1+(5+2)+(1+2)))
	wantRun(t, "vars x y ; while x { y := 2 ; while y { y := y - 1 ; emit x ; } x := x - 1 ; }", "20", ended("00", "2211", 1+2*(1+1+7+1)))
	wantRun(t, "vars x ; while x { while 0 { } x := x - 1 ; }", "3", ended("0", "", 1+3*3))
	wantRun(t, "vars x ; while x { while x { x := x - 1 ; } }", "3", ended("0", "", 1+7+1))
	// Loops one after the other.
	wantRun(t, "vars x ; while x { x := x - 1 ; } while x < 2 { x := x + 1 ; } emit x ;", "2", ended("2", "2", 5+5+1))
	wantRun(t, "vars x y ; if x { while y { y := y - 1 ; } } else { while y < 3 { y := y + 1 ; } } emit y ;", "12", ended("10", "0", 1+5+1))
	wantRun(t, "vars x y ; if x { while y { y := y - 1 ; } } else { while y < 3 { y := y + 1 ; } } emit y ;", "02", ended("03", "3", 1+3+1))
}

func TestEndlessRuns(t *testing.T) {
	wantEndless(t, "vars ; while 1 { }", "")
	for _, input := range []string{"1", "2", "3"} {
		wantEndless(t, "vars x ; while x { }", input)
		wantEndless(t, "vars x ; while x { x := x ; }", input)
		wantEndless(t, "vars x ; if x { while 1 { } }", input)
		wantEndless(t, "vars x ; while x { while x { while x { } } } x := 0 ;", input)
		wantEndless(t, "vars x ; while x { if x { } else { emit 1 ; } } emit 2 ;", input)
		wantEndless(t, "vars x ; while x { while 0 { emit 1 ; } }", input)
	}
	wantRun(t, "vars x ; while x { }", "0", ended("0", "", 1))
	p := parsed(t, "vars x ; while 1 { x := x + 1 ; emit x ; }")
	wantOutcome(t, p, words("3"), 0, outOfFuel("3", "", 0))
	wantOutcome(t, p, words("3"), 1, outOfFuel("3", "", 1))
	wantOutcome(t, p, words("3"), 2, outOfFuel("0", "", 2))
	wantOutcome(t, p, words("3"), 3, outOfFuel("0", "0", 3))
	wantOutcome(t, p, words("3"), 4, outOfFuel("0", "0", 4))
	wantOutcome(t, p, words("3"), 5, outOfFuel("1", "0", 5))
	wantOutcome(t, p, words("3"), 14, outOfFuel("0", "0123", 14))
	all := impl.RunProgram(p, words("3"), 400)
	if all.Status != impl.RunFuel || all.Cost != 400 || len(all.Output) != 133 || !slices.Equal(all.State, words("0")) || !slices.Equal(all.Output[129:], words("1230")) {
		t.Errorf("an endless run has the outcome %v", all)
	}
	// Whether a run ends depends on the input.
	for input, ends := range map[string]bool{"00": true, "01": false, "10": true, "12": true, "31": false} {
		wantTerminates(t, parsed(t, "vars x y ; while y == 1 { emit x ; }"), words(input), ends)
	}
}

func TestEvaluationsThatCost(t *testing.T) {
	p := parsed(t, "vars x ; while x < 3 { x := x + 1 ; } emit x ;")
	for fuel, want := range []impl.Outcome{
		outOfFuel("1", "", 0), outOfFuel("1", "", 1), outOfFuel("2", "", 2), outOfFuel("2", "", 3), outOfFuel("3", "", 4), outOfFuel("3", "", 5),
		ended("3", "3", 6), ended("3", "3", 6), ended("3", "3", 6),
	} {
		wantOutcome(t, p, words("1"), fuel, want)
	}
	p = parsed(t, "vars x ; emit 1 ; if x { emit 2 ; } else { x := 3 ; } while x { x := 0 ; } emit 3 ;")
	for fuel, want := range []impl.Outcome{
		outOfFuel("0", "", 0), outOfFuel("0", "1", 1), outOfFuel("0", "1", 2), outOfFuel("3", "1", 3), outOfFuel("3", "1", 4), outOfFuel("0", "1", 5), outOfFuel("0", "1", 6),
		ended("0", "13", 7), ended("0", "13", 7),
	} {
		wantOutcome(t, p, words("0"), fuel, want)
	}
	for fuel, want := range []impl.Outcome{
		outOfFuel("2", "", 0), outOfFuel("2", "1", 1), outOfFuel("2", "1", 2), outOfFuel("2", "12", 3), outOfFuel("2", "12", 4), outOfFuel("0", "12", 5), outOfFuel("0", "12", 6),
		ended("0", "123", 7), ended("0", "123", 7),
	} {
		wantOutcome(t, p, words("2"), fuel, want)
	}
	// Neither the size of an expression nor the depth of a block matters.
	wantRun(t, "vars x ; emit (x + x) + (x + x) + (x + x) ;", "1", ended("1", "2", 1))
	wantRun(t, "vars x ; if 1 { if 1 { emit !!!x ; } }", "1", ended("1", "0", 3))
	// A program without statements needs no fuel, and each other one does.
	for _, source := range []string{"vars ;", "vars x ;", "vars x y ;"} {
		vars := len(parsed(t, source).Vars)
		for _, state := range statesOf(vars) {
			for _, fuel := range []int{0, 1, 399, 400} {
				wantOutcome(t, parsed(t, source), state, fuel, impl.Outcome{Status: impl.RunEnded, State: state})
			}
			for _, statement := range []string{"emit 1 ;", "emit 1 / 0 ;", "if 0 { }", "while 0 { }", "while 1 { }"} {
				wantOutcome(t, parsed(t, source+statement), state, 0, impl.Outcome{Status: impl.RunFuel, State: state})
			}
		}
	}
}

func TestTraps(t *testing.T) {
	// A failing evaluation costs 1, and nothing else happens.
	wantRun(t, "vars ; emit 1 / 0 ;", "", trapped("", "", 1))
	wantRun(t, "vars x ; emit 1 ; x := 1 / x ;", "0", trapped("0", "1", 2))
	wantRun(t, "vars x ; emit 1 ; x := 1 / x ;", "2", ended("0", "1", 2))
	wantRun(t, "vars x y ; x := y / x ; emit 1 ;", "03", trapped("03", "", 1))
	wantRun(t, "vars x ; if 1 / x { emit 1 ; } else { emit 2 ; } emit 3 ;", "0", trapped("0", "", 1))
	wantRun(t, "vars x ; if 1 / x { emit 1 ; } else { emit 2 ; } emit 3 ;", "1", ended("1", "13", 3))
	wantRun(t, "vars x ; if 1 / x { emit 1 ; } else { emit 2 ; } emit 3 ;", "2", ended("2", "23", 3))
	wantRun(t, "vars x ; while 1 / x { x := 2 ; } emit 3 ;", "0", trapped("0", "", 1))
	wantRun(t, "vars x ; while 1 / x { x := 2 ; } emit 3 ;", "1", ended("2", "3", 4))
	// In blocks, after repetitions, and behind outputs.
	wantRun(t, "vars x ; while 1 / x { x := 0 ; emit 2 ; } emit 3 ;", "1", trapped("0", "2", 4))
	wantRun(t, "vars x ; while x { x := x - 1 ; emit 1 / x ; } emit 3 ;", "3", trapped("0", "01", 9))
	wantRun(t, "vars x ; while x { x := x - 1 ; x := 1 / x ; } emit 3 ;", "2", trapped("0", "", 6))
	wantRun(t, "vars x ; if x { } else { emit 2 / x ; } emit 3 ;", "0", trapped("0", "", 2))
	wantRun(t, "vars x ; if x { } else { emit 2 / x ; } emit 3 ;", "1", ended("1", "3", 2))
	wantRun(t, "vars x ; if x { emit x ; x := x / 0 ; emit 1 ; } emit 3 ;", "2", trapped("2", "2", 3))
	wantRun(t, "vars x y ; while x { while y { y := y - 1 ; x := x / y ; } } emit 3 ;", "32", trapped("30", "", 1+3+3))
	// The divisor is a word, so sums can be 0 as well.
	wantRun(t, "vars x ; emit 1 / (x + 1) ;", "3", trapped("3", "", 1))
	wantRun(t, "vars x ; emit 3 / (x + 1) ;", "2", ended("2", "1", 1))
	wantRun(t, "vars x ; emit 1 / (2 * x) ;", "2", trapped("2", "", 1))
	// Both operands are always evaluated, and no value of the other one hides the failure.
	for _, e := range []string{"0 & 1 / 0", "1 / 0 & 0", "1 | 1 / 0", "1 / 0 | 1", "0 * (1 / 0)", "(1 / 0) * 0", "1 / 0 < 0", "0 / (1 / 0)", "!(1 / 0)", "!!(1 / 0)", "x + 1 / 0", "0 / 0"} {
		for _, statement := range []string{"x := " + e + " ;", "emit " + e + " ;", "if " + e + " { emit 1 ; } else { emit 2 ; }", "while " + e + " { emit 1 ; }"} {
			wantRun(t, "vars x ; emit x ; "+statement+" emit 3 ;", "1", trapped("1", "1", 2))
		}
	}
	// Without fuel, nothing is evaluated, and so nothing fails.
	p := parsed(t, "vars x ; emit 2 ; emit 1 / x ; emit 3 ;")
	wantOutcome(t, p, words("0"), 0, outOfFuel("0", "", 0))
	wantOutcome(t, p, words("0"), 1, outOfFuel("0", "2", 1))
	wantOutcome(t, p, words("0"), 2, trapped("0", "2", 2))
	wantOutcome(t, p, words("0"), 3, trapped("0", "2", 2))
	// A division that is never reached does not matter.
	wantEndless(t, "vars x ; while 1 { } emit 1 / 0 ;", "1")
	wantRun(t, "vars x ; if 0 { emit 1 / 0 ; } while 0 { emit 1 / 0 ; } emit 2 ;", "1", ended("1", "2", 3))
}

func TestInputs(t *testing.T) {
	sources := []string{"vars ; emit 1 ;", "vars x ; emit x ;", "vars y x ; emit x ;"}
	inputs := [][]int{nil, {}, {0, 0, 0}, {1, 2, 3}, {3, 3, 3, 3}, slices.Repeat([]int{1}, 1000)}
	for _, first := range []int{-1, 0, 1, 2, 3, 4, 5, 7, 8, -4, -256, 256, 1 << 32, 1<<32 + 1, math.MinInt, math.MinInt + 1, math.MaxInt} {
		inputs = append(inputs, []int{first}, []int{first, 0}, []int{first, 3}, []int{0, first}, []int{3, first}, []int{first, first}, []int{first, 4}, []int{1, 1, first})
	}
	for number, source := range sources {
		p, accepted := parsed(t, source), 0
		for _, input := range inputs {
			valid := len(input) == number
			for _, n := range input {
				valid = valid && 0 <= n && n <= 3
			}
			if !valid {
				wantBadRun(t, p, input, impl.MaxFuel)
				wantBadRun(t, p, input, 0)
				continue
			}
			accepted++
			value := append(input, 1)[max(number-1, 0)]
			wantOutcome(t, p, input, 9, impl.Outcome{Status: impl.RunEnded, State: input, Output: []int{value}, Cost: 1})
			wantTerminates(t, p, input, true)
		}
		if accepted < 2 {
			t.Errorf("%d inputs of %q are valid", accepted, source)
		}
	}
	// Not even a program that does nothing accepts them.
	wantBadRun(t, parsed(t, "vars ;"), words("0"), impl.MaxFuel)
	wantBadRun(t, parsed(t, "vars x ;"), nil, impl.MaxFuel)
	wantBadRun(t, parsed(t, "vars x ;"), words("00"), impl.MaxFuel)
	wantBadRun(t, parsed(t, "vars x ;"), words("4"), impl.MaxFuel)
	wantBadRun(t, parsed(t, "vars x y ;"), words("04"), impl.MaxFuel)
}

func TestFuelsThatAreNotPermitted(t *testing.T) {
	for _, p := range runningPrograms(t) {
		for _, fuel := range []int{-1, -2, -400, 401, 402, 800, 1 << 32, 1<<32 + 1, math.MinInt, math.MinInt + 400, math.MaxInt, math.MaxInt - 1} {
			wantBadRun(t, p, make([]int, len(p.Vars)), fuel)
		}
		for _, fuel := range []int{0, 1, 399, 400} {
			if got := impl.RunProgram(p, make([]int, len(p.Vars)), fuel); got.Status == impl.RunBad || got.Cost > fuel {
				t.Errorf("RunProgram(%v) with the fuel %d = %v", p, fuel, got)
			}
		}
	}
}

func TestProgramsThatDoNotRun(t *testing.T) {
	for _, p := range differentPrograms() {
		for _, input := range append(statesOf(min(len(p.Vars), 2))[:1], make([]int, len(p.Vars))) {
			if !isValidByText(p) {
				wantBadRun(t, p, input, impl.MaxFuel)
				wantBadRun(t, p, input, 0)
			} else if len(input) == len(p.Vars) {
				wantStepByStep(t, p, input)
			}
		}
	}
	// A fault that no run reaches counts as well.
	for _, e := range invalidExprs() {
		for _, s := range withExpr(e) {
			wantBadRun(t, prog("x", when(con(0), block(s), nil)), words("1"), impl.MaxFuel)
		}
	}
	for _, p := range []impl.Program{
		prog("x", emits(9)...), prog("x y z"), prog("x x"), prog("x", assign("y", con(1))), prog("x", emit(ref("y"))), prog("", emit(ref("x"))),
		prog("x", when(con(0), block(assign("y", con(1))), nil)), prog("x", while(con(0), while(con(0), while(con(0), emits(1)...)))), prog("x", emit(nots(5, ref("x")))),
		prog("x", impl.Stmt{Kind: impl.StEmit, Name: "x", Expr: con(1)}), prog("x", impl.Stmt{Kind: impl.StEmit, Expr: con(1), Body: emits(1)}), prog("x", impl.Stmt{Kind: impl.StWhile, Expr: con(0), Else: emits(1)}),
		prog("x", impl.Stmt{Kind: 5, Expr: con(1)}), prog("x", impl.Stmt{}), prog("x", emit(con(1)), impl.Stmt{Kind: -1, Name: "x", Expr: con(1)}),
	} {
		wantBadRun(t, p, make([]int, len(p.Vars)), impl.MaxFuel)
	}
}

// withLoops gives the statements of a list, which it changes, other expressions of x and y, so that many of their loops count, and makes most emissions assignments.
func withLoops(random *rand.Rand, list []impl.Stmt) []impl.Stmt {
	x, y, one := ref("x"), ref("y"), con(1)
	up, down, less := bin(impl.OpAdd, x, one), bin(impl.OpSubtract, x, one), bin(impl.OpLess, x, con(3))
	tests := []impl.Expr{less, less, x, y, not(x), bin(impl.OpSame, x, y), bin(impl.OpLess, y, x), bin(impl.OpDivide, y, x), one}
	values := []impl.Expr{up, up, up, down, bin(impl.OpAdd, y, one), x, con(0), bin(impl.OpSubtract, y, x), bin(impl.OpDivide, one, x)}
	for _, s := range stmtsOf(list) {
		if s.Kind == impl.StEmit && random.IntN(3) > 0 {
			s.Kind, s.Name = impl.StAssign, []string{"x", "x", "y"}[random.IntN(3)]
		}
		s.Expr = values[random.IntN(len(values))]
		if s.Kind == impl.StIf || s.Kind == impl.StWhile {
			s.Expr = tests[random.IntN(len(tests))]
		}
	}
	return list
}

// endings counts the runs by their status, and those that end after more than 8 evaluations.
type endings struct {
	number [4]int
	long   int
}

func (e *endings) count(last impl.Outcome) {
	e.number[last.Status]++
	if last.Status != impl.RunFuel && last.Cost > 8 {
		e.long++
	}
}

func (e *endings) wantEach(t *testing.T, least, leastLong int) {
	t.Helper()
	if e.number[impl.RunBad] > 0 || min(e.number[impl.RunEnded], e.number[impl.RunTrapped], e.number[impl.RunFuel]) < least || e.long < leastLong {
		t.Errorf("the runs end with %v, and %d of them after more than 8 evaluations", e.number, e.long)
	}
}

func TestRandomRuns(t *testing.T) {
	random := rand.New(rand.NewPCG(11, 1))
	var seen endings
	for range 3000 {
		p := prog([]string{"", "x", "y", "x y", "y x"}[random.IntN(5)])
		p.Body = randomStmts(random, p.Vars, 1+random.IntN(8), 1+random.IntN(3))
		q := prog([]string{"x y", "y x"}[random.IntN(2)])
		q.Body = withLoops(random, randomStmts(random, q.Vars, 8, 3))
		for _, p := range []impl.Program{p, q} {
			states := statesOf(len(p.Vars))
			seen.count(wantStepByStep(t, p, states[random.IntN(len(states))], random.IntN(impl.MaxFuel+1), random.IntN(20)))
		}
	}
	seen.wantEach(t, 300, 100)
}

// shapesWithLoops returns all shapes of the given number of statements that are valid programs, with expressions and assignments at random.
func shapesWithLoops(random *rand.Rand, number int) []impl.Program {
	var all []impl.Program
	for _, list := range shapes(number) {
		if impl.BlockDepth(list) <= impl.MaxBlockDepth {
			all = append(all, prog("x y", withLoops(random, copyStmts(list))...))
		}
	}
	return all
}

func TestRunsOfAllShapes(t *testing.T) {
	random := rand.New(rand.NewPCG(11, 2))
	var seen endings
	for number := range 5 {
		for _, p := range shapesWithLoops(random, number) {
			for _, input := range [][]int{words("00"), {random.IntN(4), random.IntN(4)}} {
				seen.count(wantStepByStep(t, p, input, random.IntN(12)))
			}
		}
	}
	seen.wantEach(t, 300, 0)
}

// wantMoreFuelChangesNothing is promise 11 for one run. It takes the outcomes for the fuels from 0 to MaxFuel.
func wantMoreFuelChangesNothing(t *testing.T, all []impl.Outcome) {
	t.Helper()
	for fuel, next := range all {
		if next.Status == impl.RunBad || next.Status == impl.RunFuel && next.Cost != fuel || next.Cost > fuel {
			t.Fatalf("the outcome is %v for the fuel %d", next, fuel)
		}
		if fuel == 0 {
			continue
		}
		last := all[fuel-1]
		switch more := len(next.Output) - len(last.Output); {
		case last.Status != impl.RunFuel && (!impl.EqualOutcome(last, next) || !sameOutcome(last, next)):
			t.Fatalf("a run has ended with %v, but the fuel %d gives %v", last, fuel, next)
		case next.Cost < last.Cost, next.Cost > last.Cost+1, more < 0, more > 1, !slices.Equal(next.Output[:len(last.Output)], last.Output):
			t.Fatalf("the outcome %v does not go on, as the fuel %d gives %v", last, fuel, next)
		}
	}
}

func TestMoreFuelChangesNothingAfterTheEnd(t *testing.T) {
	for _, p := range runningPrograms(t) {
		for _, input := range statesOf(len(p.Vars)) {
			var all []impl.Outcome
			for fuel := range impl.MaxFuel + 1 {
				all = append(all, impl.RunProgram(p, input, fuel))
			}
			wantMoreFuelChangesNothing(t, all)
			steps := stepByStep(p, input, impl.MaxFuel)
			for fuel, got := range all {
				if want := steps[min(fuel, len(steps)-1)]; !sameOutcome(got, want) {
					t.Fatalf("RunProgram(%v, %v, %d) = %v; want %v", p, input, fuel, got, want)
				}
			}
			wantTerminates(t, p, input, all[impl.MaxFuel].Status != impl.RunFuel)
		}
	}
}

// A run that is longer than MaxFuel never ends: the second interpreter goes on far behind all repetitions of its states.
func TestRunsThatNeedMoreFuel(t *testing.T) {
	random := rand.New(rand.NewPCG(11, 4))
	programs := runningPrograms(t)
	for range 1000 {
		programs = append(programs, prog("x y", withLoops(random, randomStmts(random, []string{"x", "y"}, 8, 3))...))
	}
	longest := 0
	for _, p := range programs {
		states := statesOf(len(p.Vars))
		for _, input := range [][]int{states[0], states[random.IntN(len(states))], states[random.IntN(len(states))]} {
			all := stepByStep(p, input, 1000)
			last := all[len(all)-1]
			wantTerminates(t, p, input, last.Status != impl.RunFuel)
			if last.Status != impl.RunFuel {
				longest = max(longest, last.Cost)
				wantOutcome(t, p, input, impl.MaxFuel, last)
				wantOutcome(t, p, input, last.Cost, last)
			}
		}
	}
	// There are at most 8 statements with 16 states each.
	if longest < 121 || longest > 128 {
		t.Errorf("the longest run has %d evaluations", longest)
	}
}

func TestTerminates(t *testing.T) {
	p := parsed(t, "vars x y ; while x { y := 1 / y ; if y == 1 { x := x - 1 ; } }")
	for _, input := range statesOf(2) {
		want := wantStepByStep(t, p, input)
		wantTerminates(t, p, input, want.Status == impl.RunEnded || want.Status == impl.RunTrapped)
	}
	wantTerminates(t, parsed(t, "vars ;"), nil, true)
	wantTerminates(t, parsed(t, "vars ; emit 1 / 0 ;"), nil, true)
	wantTerminates(t, parsed(t, "vars ; while 1 { }"), nil, false)
	wantTerminates(t, parsed(t, "vars ; while 1 { emit 1 / 0 ; }"), nil, true)
	wantTerminates(t, parsed(t, "vars x ; while x { }"), words("0"), true)
	wantTerminates(t, parsed(t, "vars x ; while x { }"), words("1"), false)
	wantTerminates(t, parsed(t, "vars x ; while !x { x := x + 1 ; }"), words("0"), true)
	// What is no run does not end either.
	wantTerminates(t, parsed(t, "vars x ;"), nil, false)
	wantTerminates(t, parsed(t, "vars x ;"), words("4"), false)
	wantTerminates(t, parsed(t, "vars ;"), words("0"), false)
	wantTerminates(t, prog("x x"), words("00"), false)
	wantTerminates(t, prog("x", assign("y", con(1))), words("0"), false)
}

func wantEqualOutcomes(t *testing.T, a, b impl.Outcome, want bool) {
	t.Helper()
	if impl.EqualOutcome(a, b) != want || impl.EqualOutcome(b, a) != want {
		t.Errorf("EqualOutcome(%v, %v) is %v", a, b, !want)
	}
}

func TestEqualOutcomes(t *testing.T) {
	var all []impl.Outcome
	lists := [][]int{{}, {0}, {1}, {0, 0}, {0, 1}, {1, 0}, {1, 1}, {-1, 1 << 32}, {math.MinInt}, {0, 1, 2, 3}, {3, 2, 1, 0}}
	for _, status := range []int{-7, 0, 1, 2, 3, 4, 1 << 32} {
		for _, cost := range []int{-1, 0, 1, 400, math.MaxInt} {
			for i, list := range lists {
				all = append(all, impl.Outcome{Status: status, State: list, Cost: cost})
				if i > 0 {
					all = append(all, impl.Outcome{Status: status, Output: list, Cost: cost}, impl.Outcome{Status: status, State: list, Output: lists[len(lists)-i], Cost: cost})
				}
			}
		}
	}
	for i, a := range all {
		for j, b := range all {
			wantEqualOutcomes(t, a, b, i == j)
		}
		other := impl.Outcome{Status: a.Status, State: append([]int{}, a.State...), Output: append([]int{}, a.Output...), Cost: a.Cost}
		wantEqualOutcomes(t, a, other, true)
	}
	// Nil and empty lists are the same, and what lies behind a list does not matter.
	wantEqualOutcomes(t, impl.Outcome{}, impl.Outcome{State: []int{}, Output: []int{}}, true)
	wantEqualOutcomes(t, impl.Outcome{State: []int{1, 2}[:1]}, impl.Outcome{State: []int{1, 3}[:1]}, true)
	wantEqualOutcomes(t, impl.Outcome{Output: []int{1, 2}[:1]}, impl.Outcome{Output: []int{1, 2}}, false)
	wantEqualOutcomes(t, impl.Outcome{Output: make([]int, 100000)}, impl.Outcome{Output: make([]int, 100000)}, true)
	wantEqualOutcomes(t, impl.Outcome{Output: make([]int, 100000)}, impl.Outcome{Output: append(make([]int, 99999), 1)}, false)
}

func TestSharedBlocksRun(t *testing.T) {
	shared := block(assign("x", bin(impl.OpAdd, ref("x"), con(1))), emit(ref("x")))
	p := prog("x", when(ref("x"), shared, shared[1:]), while(bin(impl.OpLess, ref("x"), con(3)), shared...))
	for _, input := range statesOf(1) {
		last := wantStepByStep(t, p, input, 1, 2, 3, 4, 5, 6, 7, 8, 9)
		wantOutcome(t, copyProgram(p), input, impl.MaxFuel, last)
	}
	wantOutcome(t, p, words("0"), impl.MaxFuel, ended("3", "0123", 12))
}

func TestLargeAndEndlessProgramsDoNotRun(t *testing.T) {
	deep := block(assign("x", con(1)))
	for range 100000 {
		deep = block(while(con(1), deep...))
	}
	wide := slices.Repeat(emits(1), 100000)
	list := block(assign("x", con(1)))
	for range 100 {
		list = block(when(con(1), list, list))
	}
	for _, body := range [][]impl.Stmt{deep, wide, list} {
		wantBadRun(t, prog("x", body...), words("1"), impl.MaxFuel)
	}
	for kind := -1; kind <= 5; kind++ {
		for in := 1; in <= 3; in++ {
			wantBadRun(t, prog("x", endlessList(kind, "x", in != 2, in != 1)...), words("1"), impl.MaxFuel)
		}
	}
	endless := con(1)
	endless.Kind, endless.Args = impl.ExprNot, []impl.Expr{{Kind: impl.ExprNot}}
	endless.Args[0].Args = endless.Args
	for _, s := range withExpr(endless) {
		wantBadRun(t, prog("x", s), words("1"), impl.MaxFuel)
	}
	wantBadRun(t, prog("x"), make([]int, 1000000), impl.MaxFuel)
}

// overwrite changes all elements of a list, also those behind its end.
func overwrite(list []int) {
	for i := range list[:cap(list)] {
		list[:cap(list)][i] = -9
	}
}

func TestRunsModifyNothing(t *testing.T) {
	for _, plain := range runningPrograms(t) {
		for _, state := range statesOf(len(plain.Vars)) {
			vars, arrayOfVars := behind(plain.Vars)
			p := impl.Program{Vars: vars, Body: spaciousStmts(plain.Body)}
			array := append(slices.Clone(state), -1, -2, -3)
			input := array[:len(state)]
			before, beforeVars, beforeArray := stmtsWithCapacity(p.Body), slices.Clone(arrayOfVars), slices.Clone(array)
			for _, fuel := range []int{0, 3, 30, 400, -1, 401} {
				got := impl.RunProgram(p, input, fuel)
				kept := impl.Outcome{Status: got.Status, State: slices.Clone(got.State), Output: slices.Clone(got.Output), Cost: got.Cost}
				other := impl.RunProgram(p, input, fuel)
				// A change of a result changes neither an argument nor another result.
				overwrite(other.State)
				overwrite(other.Output)
				if !sameOutcome(got, kept) || !impl.EqualOutcome(got, kept) {
					t.Fatalf("the outcome %v has become %v", kept, got)
				}
				wantOutcome(t, p, input, fuel, kept)
				// Nor does it change the other list of the result.
				overwrite(got.State)
				if !slices.Equal(got.Output, kept.Output) {
					t.Fatalf("State and Output of %v share memory", kept)
				}
				overwrite(got.Output)
				if !slices.Equal(got.State, slices.Repeat([]int{-9}, len(got.State))) {
					t.Fatalf("Output and State of %v share memory", kept)
				}
			}
			impl.Terminates(p, input)
			if !reflect.DeepEqual(stmtsWithCapacity(p.Body), before) || !slices.Equal(arrayOfVars, beforeVars) || !slices.Equal(array, beforeArray) {
				t.Fatalf("a function or a change of its result modified %v or %v", plain, state)
			}
		}
	}
}

func TestOutcomesDoNotChangeWithTheArguments(t *testing.T) {
	p := prog("x", emit(ref("x")), assign("x", con(3)))
	input := words("1")
	got, empty := impl.RunProgram(p, input, 400), impl.RunProgram(p, input, 0)
	input[0] = 2
	p.Vars[0] = "y"
	p.Body[0], p.Body[1] = p.Body[1], p.Body[0]
	if !sameOutcome(got, ended("3", "1", 2)) || !sameOutcome(empty, outOfFuel("1", "", 0)) {
		t.Errorf("a change of the arguments changed the outcomes to %v and %v", got, empty)
	}
	a, b := ended("12", "3", 4), ended("12", "3", 4)
	a.State, a.Output = append(a.State, 9)[:2], append(a.Output, 9)[:1]
	wantEqualOutcomes(t, a, b, true)
	if !slices.Equal(a.State[:3], words("129")) || !slices.Equal(a.Output[:2], words("39")) || !sameOutcome(a, b) {
		t.Error("EqualOutcome modified its arguments")
	}
}

func TestRunsKeepNothing(t *testing.T) {
	p := parsed(t, "vars x ; while x { x := x - 1 ; }")
	input := words("2")
	for range 3 {
		wantOutcome(t, p, input, 400, ended("0", "", 5))
		wantTerminates(t, p, input, true)
		// The same memory with another content is another program, or another input.
		p.Body[0].Body[0] = emit(con(2))
		wantOutcome(t, p, input, 5, outOfFuel("2", "22", 5))
		wantTerminates(t, p, input, false)
		input[0] = 0
		wantOutcome(t, p, input, 5, ended("0", "", 1))
		wantTerminates(t, p, input, true)
		input[0] = 4
		wantBadRun(t, p, input, impl.MaxFuel)
		input[0] = 2
		p.Vars[0] = "y"
		wantBadRun(t, p, input, impl.MaxFuel)
		p.Vars[0] = "x"
		p.Body[0].Body[0] = assign("x", bin(impl.OpSubtract, ref("x"), con(1)))
		wantBadRun(t, p, input, -1)
	}
}
